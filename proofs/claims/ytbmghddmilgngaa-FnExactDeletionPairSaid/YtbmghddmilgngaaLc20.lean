/-
  Determinants of the model: l4Without and l4Det, what the calls return.
  SubCartan of the model: what the call returns.
  Nothing: the program of this seat calls no sort of the library (the name is imported by texts that serve other seats too).
  A search through a graph of at most four points, as both sides walk it, and what it finds (no walk here).
  Rows of bools of the call's own, an append whose row's place is told, and the library's sort on a row of ints.
-/
import Derived.Deep.RegionHeld3
import Derived.Test.YtbmghddmilgngaaLc19
import Derived.Test.YtbmghddmilgngaaProg
import Derived.Test.YtbmghddmilgngaaLc01
import Derived.Lib.SlKeysI
import Derived.Lib.AppendZeros
import Derived.Test.YtbmghddmilgngaaLc18
namespace Go.Proofs.Ytbmghddmilgngaa
open Go.RowKit

/-! ### Without the first row and a column -/
def keepC (n col : Nat) : List Nat := (List.range n).filter fun j => decide (j ≠ col)
def wdR (m : List (List Int)) (col i k : Nat) : List Int := (keepC k col).map (entry m i)
def wdM (m : List (List Int)) (n col k : Nat) : List (List Int) := (List.range k).map fun i => wdR m col (i + 1) n
theorem wdR_yes {m : List (List Int)} {col i k : Nat} (h : k ≠ col) : wdR m col i k ++ [entry m i k] = wdR m col i (k + 1) := by
  unfold wdR keepC
  rw [List.range_succ, List.filter_append, List.map_append]
  simp [h]
theorem wdR_no {m : List (List Int)} {col i k : Nat} (h : k = col) : wdR m col i k = wdR m col i (k + 1) := by
  unfold wdR keepC
  rw [List.range_succ, List.filter_append, List.map_append]
  simp [h]
theorem keepC_len (k col : Nat) : (keepC k col).length = if col < k then k - 1 else k := by
  induction k with
  | zero => rfl
  | succ k ih =>
    unfold keepC at ih ⊢
    rw [List.range_succ, List.filter_append, List.length_append, ih]
    by_cases h : k = col
    · subst h; simp
    · by_cases h2 : col < k
      · simp [h, h2, show col < k + 1 by omega]; omega
      · simp [h, h2, show ¬ col < k + 1 by omega]
theorem wdR_len (m : List (List Int)) (col i k : Nat) : (wdR m col i k).length ≤ k := by
  unfold wdR
  rw [List.length_map, keepC_len]
  split <;> omega
theorem wdR_full (m : List (List Int)) (col i n : Nat) (h : col < n + 1) : (wdR m col i (n + 1)).length = n := by
  unfold wdR
  rw [List.length_map, keepC_len, if_pos h]; rfl
theorem wdM_len (m : List (List Int)) (n col k : Nat) : (wdM m n col k).length = k := by simp [wdM]
theorem wdM_step (m : List (List Int)) (n col k : Nat) : wdM m n col k ++ [wdR m col (k + 1) n] = wdM m n col (k + 1) := by
  unfold wdM
  rw [List.range_succ, List.map_append]; rfl
theorem wdM_get (m : List (List Int)) (n col k i : Nat) (h : i < k) : (wdM m n col k).getD i [] = wdR m col (i + 1) n := by simp [wdM, List.getD, h]
theorem wdM_rows (m : List (List Int)) (col n : Nat) (h : col < n + 1) : Rows0 (wdM m (n + 1) col n) n n := fun i hi => by
  rw [wdM_get _ _ _ _ _ hi]; exact wdR_full m col (i + 1) n h
/-- Entries from -3 to 3. -/
def Bd (m : List (List Int)) : Prop := ∀ i j, -3 ≤ entry m i j ∧ entry m i j ≤ 3
theorem wdM_bd {m : List (List Int)} (hb : Bd m) (n col k : Nat) : Bd (wdM m n col k) := fun i j => by
  by_cases hi : i < k
  · unfold entry
    rw [wdM_get _ _ _ _ _ hi]
    by_cases hj : j < (wdR m col (i + 1) n).length
    · have e : (wdR m col (i + 1) n).getD j 0 = (wdR m col (i + 1) n)[j] := by simp [List.getD, hj]
      rw [e]
      have hm := List.getElem_mem hj
      unfold wdR at hm
      obtain ⟨c, _, hc⟩ := List.mem_map.1 hm
      have : (wdR m col (i + 1) n)[j] = entry m (i + 1) c := hc.symm
      rw [this]
      exact hb _ _
    · rw [List.getD_eq_getElem?_getD, List.getElem?_eq_none (by omega)]; decide
  · unfold entry
    have e : (wdM m n col k).getD i [] = [] := by rw [List.getD_eq_getElem?_getD, List.getElem?_eq_none (by rw [wdM_len]; omega)]; rfl
    rw [e]; simp
theorem isC_bd {m : List (List Int)} (h : IsC m) : Bd m := fun i j => by
  by_cases hi : i < m.length
  · by_cases hj : j < m.length
    · rcases h.2.1 i j hi hj with h1 | h1
      · rw [h1.2]; decide
      · have := h1.2.1; omega
    · have h1 := h.1 i hi
      have : entry m i j = 0 := by
        unfold entry
        have h2 : (m.getD i []).length ≤ j := by omega
        rw [List.getD_eq_getElem?_getD (l := m.getD i []), List.getElem?_eq_none h2]; rfl
      rw [this]; decide
  · have : entry m i j = 0 := by unfold entry; simp [List.getD, List.getElem?_eq_none (show m.length ≤ i by omega)]
    rw [this]; decide

/-! ### Determinants -/
def sgn (j : Nat) (x : Int) : Int := if j % 2 = 1 then -x else x
def detF : Nat → List (List Int) → Int
  | 0, _ => 1
  | n + 1, m => ((List.range (n + 1)).map fun j => sgn j (entry m 0 j * detF n (wdM m (n + 1) j n))).sum
def detS (n : Nat) (m : List (List Int)) (k : Nat) : Int := ((List.range k).map fun j => sgn j (entry m 0 j * detF n (wdM m (n + 1) j n))).sum
theorem detS_step (n : Nat) (m : List (List Int)) (k : Nat) : detS n m (k + 1) = detS n m k + sgn k (entry m 0 k * detF n (wdM m (n + 1) k n)) := by
  unfold detS
  rw [List.range_succ, List.map_append, List.sum_append]
  simp
theorem detS_end (n : Nat) (m : List (List Int)) : detS n m (n + 1) = detF (n + 1) m := rfl
def dB : Nat → Int
  | 0 => 1
  | n + 1 => (n + 1 : Nat) * (3 * dB n)
theorem sgn_le {j : Nat} {x b : Int} (h : -b ≤ x ∧ x ≤ b) : -b ≤ sgn j x ∧ sgn j x ≤ b := by
  unfold sgn
  split <;> omega
theorem mul_le3 {x y b : Int} (hx : -3 ≤ x ∧ x ≤ 3) (hy : -b ≤ y ∧ y ≤ b) (hb : 0 ≤ b) : -(3 * b) ≤ x * y ∧ x * y ≤ 3 * b := by
  obtain ⟨h1, h2⟩ := hx
  rcases (show x = -3 ∨ x = -2 ∨ x = -1 ∨ x = 0 ∨ x = 1 ∨ x = 2 ∨ x = 3 by omega) with rfl | rfl | rfl | rfl | rfl | rfl | rfl <;> omega
theorem dB_nonneg (n : Nat) : 0 ≤ dB n := by
  induction n with
  | zero => decide
  | succ n ih => exact Int.mul_nonneg (by omega) (by omega)
theorem detS_bd {n : Nat} {m : List (List Int)} (hb : Bd m) (hd : ∀ j, -(dB n) ≤ detF n (wdM m (n + 1) j n) ∧ detF n (wdM m (n + 1) j n) ≤ dB n) (k : Nat) :
    -((k : Int) * (3 * dB n)) ≤ detS n m k ∧ detS n m k ≤ (k : Int) * (3 * dB n) := by
  induction k with
  | zero => simp [detS]
  | succ k ih =>
    rw [detS_step]
    have h1 := sgn_le (j := k) (mul_le3 (hb 0 k) (hd k) (dB_nonneg n))
    have e : ((k + 1 : Nat) : Int) * (3 * dB n) = (k : Int) * (3 * dB n) + 3 * dB n := by rw [Int.natCast_succ, Int.add_mul, Int.one_mul]
    rw [e]
    omega
theorem detF_bd (n : Nat) : ∀ m, Bd m → -(dB n) ≤ detF n m ∧ detF n m ≤ dB n := by
  induction n with
  | zero => intro m _; show -(1 : Int) ≤ 1 ∧ (1 : Int) ≤ 1; decide
  | succ n ih =>
    intro m hb
    rw [← detS_end]
    exact detS_bd hb (fun j => ih _ (wdM_bd hb _ _ _)) (n + 1)
theorem dB_small (n : Nat) (h : n ≤ 4) : dB n ≤ 1944 := by
  rcases (show n = 0 ∨ n = 1 ∨ n = 2 ∨ n = 3 ∨ n = 4 by omega) with rfl | rfl | rfl | rfl | rfl <;> decide

/-! ### The calls -/
theorem wdM_pred (m : List (List Int)) (N col kk : Nat) (h : 1 ≤ kk) : wdM m N col (kk - 1) ++ [wdR m col kk N] = wdM m N col kk := by
  obtain ⟨k, rfl⟩ : ∃ k, kk = k + 1 := ⟨kk - 1, by omega⟩
  exact wdM_step m N col k
theorem keepS {wq w2 : World} {p q : Addr} {c d : Value} (hp : p.block < wq.heap.size) (hq : q.block < wq.heap.size) (h1 : wq.cell? p = some c) (h2 : wq.cell? q = some d) (h : Below wq.heap.size wq w2) :
    Below wq.heap.size wq w2 ∧ w2.cell? p = some c ∧ w2.cell? q = some d := ⟨h, (h.cell hp).trans h1, (h.cell hq).trans h2⟩
theorem detF_ret {a b : Int} {w w' : World} {C : Nat} (h : a = b) (hb : Below C w w') : Ending.returned (.int .i64 a) = .returned (.int .i64 b) ∧ Below C w w' := ⟨by rw [h], hb⟩

end Go.Proofs.Ytbmghddmilgngaa
namespace Go.Proofs.Ytbmghddmilgngaa
open Go.RowKit

/-! ### The two loops that fill the result -/
/-- 'append(row, x)' as a step of a region that draws its order: the literal's block lies at g. -/
theorem step_lit {ops : Array Oper} {o : Oper} {a : Act} {K : Act → World → Prop} {Q : Exit → Act → World → Prop} {E : Prop} {s x : Operand} {A : Nat} {v : Value} {l : List Int} {wr : World} (n : Int) (g : Nat)
    (hM : RowI A wr.heap.size wr v l) (hA : A ≤ wr.heap.size) (hg : wr.heap[g]? = some (.cells #[.int .i64 n] 3 (0, 0))) (hlen : l.length + [n].length ≤ 4194304) (hgd : o.guard = none)
    (ho : o.op = .call { callee := .builtin .append, args := #[s, x], argTypes := #[25, 25] }) (hs : a.eval s = v) (hx : a.eval x = .slice (some ⟨g, 0, none⟩) 1 1)
    (h : AfterRow A wr (l ++ [n]) fun v' w' => K (a.put o.dst v') w') : if Region.wanted o (yielded ops a.tmps) = true then Oper.wp Try.prog o a wr K Q else E :=
  step_ints (l2 := [n]) (B := g + 1) hM hA (Or.inr ⟨g, 0, 1, rfl, by omega, fun j hj => by
    obtain rfl : j = 0 := by simp at hj; omega
    rw [cell_of_row wr g (0 + 0) _ _ _ hg]; rfl⟩) (by simp) hlen hgd ho hs hx h
end Go.Proofs.Ytbmghddmilgngaa
namespace Go.Proofs.Ytbmghddmilgngaa
theorem no_sort_here : True := True.intro
end Go.Proofs.Ytbmghddmilgngaa
namespace Go.Proofs.Ytbmghddmilgngaa

def visit1 (s : List Bool × List Nat) (j : Nat) : List Bool × List Nat := if s.1.getD j false then s else (s.1.set j true, s.2 ++ [j])
def visitL (l : List Nat) (s : List Bool × List Nat) : List Bool × List Nat := l.foldl visit1 s
def bfsStep (G : Nat → List Nat) (k : Nat) (s : List Bool × List Nat) : List Bool × List Nat := match s.2[k]? with | some p => visitL (G p) s | none => s
def bfsN (G : Nat → List Nat) (s : List Bool × List Nat) : Nat → List Bool × List Nat
  | 0 => s
  | k + 1 => bfsStep G k (bfsN G s k)
/-- What every step keeps. -/
def BInv (n C : Nat) (s : List Bool × List Nat) : Prop := s.1.length = n ∧ (∀ k, k < s.2.length → s.2.getD k 0 < n) ∧ s.2.length + s.1.count false = C ∧ 0 < s.2.length
theorem visit1_inv {n C : Nat} {s : List Bool × List Nat} {j : Nat} (h : BInv n C s) (hj : j < n) : BInv n C (visit1 s j) := by
  obtain ⟨h1, h2, h3, h9⟩ := h
  unfold visit1
  by_cases hs : s.1.getD j false = true
  · rw [if_pos hs]; exact ⟨h1, h2, h3, h9⟩
  · rw [if_neg hs]
    have hj' : j < s.1.length := by omega
    have hf : s.1[j] = false := by
      have : s.1.getD j false = s.1[j] := by simp [List.getD, hj']
      rw [this] at hs; simpa using hs
    refine ⟨by simp [h1], fun k hk => ?_, ?_, by simp⟩
    · simp only [List.length_append, List.length_singleton] at hk
      by_cases hk' : k < s.2.length
      · have := h2 k hk'
        simpa [List.getD, List.getElem?_append_left hk'] using this
      · obtain rfl : k = s.2.length := by omega
        simpa [List.getD] using hj
    · have hpos : 0 < s.1.count false := List.count_pos_iff.2 (hf ▸ List.getElem_mem hj')
      simp only [List.length_append, List.length_singleton]
      rw [List.count_set (h := hj')]
      simp [hf]
      omega
theorem visitL_inv {n C : Nat} (l : List Nat) {s : List Bool × List Nat} (h : BInv n C s) (hl : ∀ k, k < l.length → l.getD k 0 < n) : BInv n C (visitL l s) := by
  induction l generalizing s with
  | nil => exact h
  | cons x l ih =>
    refine ih (visit1_inv h (by have := hl 0 (by simp); simpa using this)) fun k hk => ?_
    have := hl (k + 1) (by simp; omega)
    simpa using this
theorem visitL_step (l : List Nat) (s : List Bool × List Nat) (j : Nat) (h : j < l.length) : visitL (l.take (j + 1)) s = visit1 (visitL (l.take j) s) (l.getD j 0) := by
  rw [List.take_succ_eq_append_getElem h]
  unfold visitL
  rw [List.foldl_append]
  simp [List.getD, h]
theorem visitL_all (l : List Nat) (s : List Bool × List Nat) : visitL (l.take l.length) s = visitL l s := by rw [List.take_length]
def GrIn (G : Nat → List Nat) (n : Nat) : Prop := ∀ p k, k < (G p).length → (G p).getD k 0 < n
theorem bfsN_inv {G : Nat → List Nat} {n C : Nat} (hG : GrIn G n) {s : List Bool × List Nat} (h : BInv n C s) (k : Nat) : BInv n C (bfsN G s k) := by
  induction k with
  | zero => exact h
  | succ k ih =>
    unfold bfsN bfsStep
    cases (bfsN G s k).2[k]? with
    | none => exact ih
    | some p => exact visitL_inv _ ih (hG p)
theorem bfsN_step {G : Nat → List Nat} {s : List Bool × List Nat} {k : Nat} (h : k < (bfsN G s k).2.length) : bfsN G s (k + 1) = visitL (G ((bfsN G s k).2.getD k 0)) (bfsN G s k) := by
  show bfsStep G k (bfsN G s k) = _
  unfold bfsStep
  rw [List.getElem?_eq_getElem h]
  simp [List.getD, h]
theorem bfsN_stop {G : Nat → List Nat} {s : List Bool × List Nat} {k : Nat} (h : (bfsN G s k).2.length ≤ k) (t : Nat) : bfsN G s (k + t) = bfsN G s k := by
  induction t with
  | zero => rfl
  | succ t ih =>
    show bfsStep G (k + t) (bfsN G s (k + t)) = _
    rw [ih]
    unfold bfsStep
    rw [List.getElem?_eq_none (by omega)]
theorem bfsN_end {G : Nat → List Nat} {s : List Bool × List Nat} {k N : Nat} (h : (bfsN G s k).2.length ≤ k) (hN : k ≤ N) : bfsN G s k = bfsN G s N := by
  obtain ⟨t, rfl⟩ : ∃ t, N = k + t := ⟨N - k, by omega⟩
  exact (bfsN_stop h t).symm

/-! ### Parts, as the model and as the program find them -/
def start (_n i : Nat) (s : List Bool) : List Bool × List Nat := (s.set i true, [i])
def bfsE (G : Nat → List Nat) (s : List Bool × List Nat) : List Bool × List Nat := bfsN G s 6
def seenK (s : List Bool) (k : Nat) : List Nat := (List.range k).filter fun j => s.getD j false
def mPart (G : Nat → List Nat) (n i : Nat) : List Nat := seenK (bfsE G (start n i (List.replicate n false))).1 n
def partsM (G : Nat → List Nat) (n : Nat) : Nat → List (List Nat)
  | 0 => []
  | i + 1 => if (mPart G n i).getD 0 0 = i then partsM G n i ++ [mPart G n i] else partsM G n i
def sortN (n : Nat) (q : List Nat) : List Nat := (List.range n).filter fun k => q.contains k
def partsP (G : Nat → List Nat) (n : Nat) : Nat → List Bool × List (List Nat)
  | 0 => (List.replicate n false, [])
  | i + 1 => if (partsP G n i).1.getD i false then partsP G n i else ((bfsE G (start n i (partsP G n i).1)).1, (partsP G n i).2 ++ [sortN n (bfsE G (start n i (partsP G n i).1)).2])

/-! ### Graphs -/
/-- The neighbours in the graph with the edges 01, 02, 03, 12, 13, 23. -/
def grE (a b c d e f : Bool) (i j : Nat) : Bool := match i, j with
  | 0, 1 => a | 1, 0 => a | 0, 2 => b | 2, 0 => b | 0, 3 => c | 3, 0 => c | 1, 2 => d | 2, 1 => d | 1, 3 => e | 3, 1 => e | 2, 3 => f | 3, 2 => f
  | _, _ => false
def grN (E : Nat → Nat → Bool) (n p : Nat) : List Nat := (List.range n).filter (E p)
def endsN (G : Nat → List Nat) (k : Nat) : Nat := ((List.range k).map fun i => (G i).length).sum
def edgesN (E : Nat → Nat → Bool) (k : Nat) : Nat := ((List.range k).map fun i => ((List.range i).filter (E i)).length).sum
/-- What is wanted of a graph with n points. -/
def GrOk (G : Nat → List Nat) (n : Nat) : Prop :=
  (partsP G n n).2 = partsM G n n ∧ (∀ i, i < n → (mPart G n i).length ≠ 0) ∧ (∀ i, i < n → (partsP G n i).1.getD i false = false → (bfsE G (start n i (partsP G n i).1)).2.Perm (sortN n (bfsE G (start n i (partsP G n i).1)).2)) ∧ (partsM G n n).length ≤ n ∧ ((partsM G n n).map List.length).sum ≤ n
instance (G : Nat → List Nat) (n : Nat) : Decidable (GrOk G n) := by unfold GrOk; infer_instance
set_option maxRecDepth 100000 in
theorem edOk : ∀ a b c d e f : Bool, endsN (grN (grE a b c d e f) 1) 1 / 2 = edgesN (grE a b c d e f) 1 ∧ endsN (grN (grE a b c d e f) 2) 2 / 2 = edgesN (grE a b c d e f) 2 ∧ endsN (grN (grE a b c d e f) 3) 3 / 2 = edgesN (grE a b c d e f) 3 ∧ endsN (grN (grE a b c d e f) 4) 4 / 2 = edgesN (grE a b c d e f) 4 := by decide +kernel
set_option maxRecDepth 100000 in
theorem grOk1 : ∀ a b c d e f : Bool, GrOk (grN (grE a b c d e f) 1) 1 := by decide +kernel
set_option maxRecDepth 100000 in
theorem grOk2 : ∀ a b c d e f : Bool, GrOk (grN (grE a b c d e f) 2) 2 := by decide +kernel
set_option maxRecDepth 100000 in
theorem grOk3 : ∀ a b c d e f : Bool, GrOk (grN (grE a b c d e f) 3) 3 := by decide +kernel
set_option maxRecDepth 100000 in
theorem grOk4 : ∀ a b c d e f : Bool, GrOk (grN (grE a b c d e f) 4) 4 := by decide +kernel
theorem grOk_all (n : Nat) (h1 : 1 ≤ n) (h4 : n ≤ 4) (a b c d e f : Bool) : GrOk (grN (grE a b c d e f) n) n := by
  rcases (show n = 1 ∨ n = 2 ∨ n = 3 ∨ n = 4 by omega) with rfl | rfl | rfl | rfl
  · exact grOk1 a b c d e f
  · exact grOk2 a b c d e f
  · exact grOk3 a b c d e f
  · exact grOk4 a b c d e f
theorem edOk_all (n : Nat) (h1 : 1 ≤ n) (h4 : n ≤ 4) (a b c d e f : Bool) : endsN (grN (grE a b c d e f) n) n / 2 = edgesN (grE a b c d e f) n := by
  obtain ⟨q1, q2, q3, q4⟩ := edOk a b c d e f
  rcases (show n = 1 ∨ n = 2 ∨ n = 3 ∨ n = 4 by omega) with rfl | rfl | rfl | rfl
  · exact q1
  · exact q2
  · exact q3
  · exact q4
theorem seenK_yes {s : List Bool} {k : Nat} (h : s.getD k false = true) : seenK s k ++ [k] = seenK s (k + 1) := by
  unfold seenK
  rw [List.range_succ, List.filter_append]
  simp [-List.getD_eq_getElem?_getD, h]
theorem seenK_no {s : List Bool} {k : Nat} (h : s.getD k false = false) : seenK s k = seenK s (k + 1) := by
  unfold seenK
  rw [List.range_succ, List.filter_append]
  simp [-List.getD_eq_getElem?_getD, h]
theorem sortN_sorted (n : Nat) (q : List Nat) : (sortN n q).Pairwise fun x y => x ≤ y :=
  (List.pairwise_lt_range.filter _).imp fun h => Nat.le_of_lt h
theorem start_inv {n i : Nat} {s : List Bool} (hs : s.length = n) (hi : i < n) : BInv n (1 + (s.set i true).count false) (start n i s) :=
  ⟨by simp [start, hs], fun k hk => by
    obtain rfl : k = 0 := by simp [start] at hk; omega
    simpa [start] using hi, by simp [start], by simp [start]⟩
theorem start_le {n i : Nat} {s : List Bool} (hs : s.length = n) : 1 + (s.set i true).count false ≤ n + 1 := by
  have h1 : (s.set i true).count false ≤ (s.set i true).length := List.count_le_length
  rw [List.length_set] at h1
  omega
end Go.Proofs.Ytbmghddmilgngaa
namespace Go.Proofs.Ytbmghddmilgngaa
open Go.RowKit

/-! ### Rows of bools -/
def boolsV (s : List Bool) : List Value := s.map Value.bool
theorem boolsV_len (s : List Bool) : (boolsV s).length = s.length := by simp [boolsV]
theorem boolsV_set (s : List Bool) (j : Nat) (x : Bool) : (boolsV s).set j (.bool x) = boolsV (s.set j x) := by simp [boolsV, List.map_set]
theorem Try.infoBool : (Try.prog.info? 4).map (fun i => (i.zero, i.size, i.bytes)) = some (some (.bool false), 1, 1) := by kernel_rfl
theorem madeBools (n : Nat) : (madeCells (Value.bool false).cells n).toList = boolsV (List.replicate n false) := by
  apply List.ext_getElem
  · simp [madeCells, boolsV]
  · intro i h1 h2
    simp [madeCells, boolsV, Value.cells, Nat.mod_one]
/-- The bools of a row of the call's own in block g. -/
def SeenI (A : Nat) (w : World) (g n : Nat) (s : List Bool) : Prop := s.length = n ∧ w.ownsRow A 4 1 (.slice (some ⟨g, 0, none⟩) n n) n (boolsV s)
theorem seen_made (w : World) (n : Nat) (hn : n ≤ 1048576) : SeenI w.heap.size (w.alloc (.cells (boolsV (List.replicate n false)).toArray 4)) w.heap.size n (List.replicate n false) :=
  ⟨by simp, World.ownsRow_lit (base := w.heap.size) (e := 4) (size := 1) w (boolsV (List.replicate n false)).toArray n (Nat.le_refl _) (by unfold maxLen; omega) (by simp [boolsV])⟩
theorem SeenI.lt {A : Nat} {w : World} {g n : Nat} {s : List Bool} (h : SeenI A w g n s) : A ≤ g ∧ g < w.heap.size := h.2.lt g rfl
theorem SeenI.cell {A : Nat} {w : World} {g n : Nat} {s : List Bool} (h : SeenI A w g n s) {j : Nat} (hj : j < n) : w.cell? ⟨g, j, none⟩ = some (.bool (s.getD j false)) := by
  have hl := h.1
  rw [h.2.cellAt j (by omega)]
  simp [boolsV, List.getD, show j < s.length by omega]
theorem SeenI.frozen {A : Nat} {w : World} {g n : Nat} {s : List Bool} (h : SeenI A w g n s) (j : Nat) : w.frozen? ⟨g, j, none⟩ = false := h.2.frozenAt j
theorem SeenI.put {A : Nat} {w : World} {g n : Nat} {s : List Bool} (h : SeenI A w g n s) (j : Nat) (x : Bool) :
    SeenI A (w.setCell ⟨g, j, none⟩ (.bool x)) g n (s.set j x) ∧ w.grownBy (w.setCell ⟨g, j, none⟩ (.bool x)) (some g) := by
  obtain ⟨h1, h2⟩ := h.2.stored j (.bool x)
  rw [boolsV_set] at h1
  exact ⟨⟨by rw [List.length_set]; exact h.1, h1⟩, h2⟩
theorem SeenI.keep {A : Nat} {w w' : World} {g n : Nat} {s : List Bool} {S : Option Nat} (h : SeenI A w g n s) (hg : w.grownBy w' S) (hne : S ≠ some g) : SeenI A w' g n s :=
  ⟨h.1, h.2.kept hg (Or.inr fun e => hne (by rw [← e]; rfl))⟩
theorem SeenI.mono {A A' : Nat} {w : World} {g n : Nat} {s : List Bool} (h : SeenI A w g n s) (hA : A' ≤ A) : SeenI A' w g n s :=
  ⟨h.1, h.2.1, by
    rcases h.2.2 with ⟨h', _⟩ | ⟨g', cap, cur, h3, h4, h5⟩
    · cases h'
    · exact Or.inr ⟨g', cap, cur, h3, by omega, h5⟩⟩
theorem SeenI.below {A : Nat} {w w' : World} {g n : Nat} {s : List Bool} {C : Nat} (h : SeenI A w g n s) (hb : Below C w w') (hC : g < C) : SeenI A w' g n s := by
  refine ⟨h.1, h.2.1, ?_⟩
  rcases h.2.2 with ⟨h', _⟩ | ⟨g', cap, cur, h3, h4, h5, h6⟩
  · cases h'
  · have e : g' = g := by simp at h3; exact h3.1.symm
    exact Or.inr ⟨g', cap, cur, h3, h4, by rw [hb.block g' (by omega)]; exact h5, h6⟩

/-- Two rows whose elements are of two types lie in two blocks. -/
theorem own_differ {w : World} {A A' : Nat} {e e' : TypeId} {u v : Value} {n n' : Nat} {xs ys : List Value} (hee : e ≠ e') (h : w.ownsRow A e 1 u n xs) (h' : w.ownsRow A' e' 1 v n' ys) : v.ownBlock = none ∨ v.ownBlock ≠ u.ownBlock := by
  rcases h'.2 with ⟨rfl, _⟩ | ⟨g', cap', cur', rfl, _, hg', _⟩
  · exact Or.inl rfl
  · right
    rcases h.2 with ⟨rfl, _⟩ | ⟨g, cap, cur, rfl, _, hg, _⟩
    · simp [Value.ownBlock]
    · intro e
      have e2 : g' = g := by simpa [Value.ownBlock] using e
      subst e2
      rw [hg] at hg'
      have := Option.some.inj hg'
      simp at this
      exact hee this.2
theorem SeenI.row_ne {A A' B' : Nat} {w : World} {g n : Nat} {s : List Bool} {v : Value} {l : List Int} (h : SeenI A w g n s) (hr : RowI A' B' w v l) : v.ownBlock = none ∨ v.ownBlock ≠ some g :=
  own_differ (by decide) h.2 hr.1
theorem SeenI.ne_row {A A' B' : Nat} {w : World} {g n : Nat} {s : List Bool} {v : Value} {l : List Int} (h : SeenI A w g n s) (hr : RowI A' B' w v l) : v.ownBlock ≠ some g := by
  rcases h.row_ne hr with h1 | h1
  · rw [h1]; simp
  · exact h1
theorem MatI.keep {A B A' : Nat} {w w' : World} {v : Value} {m : List (List Int)} {g n : Nat} {s : List Bool} (h : MatI A B w v m) (hs : SeenI A' w g n s) (hg : w.grownBy w' (some g)) : MatI A B w' v m := by
  obtain ⟨hh, h1, h2, h3, h4⟩ := h
  refine ⟨hh, h1.kept hg ?_, h2, fun j hj => ?_, h4⟩
  · exact own_differ (by decide) hs.2 h1
  · obtain ⟨hv, h5, h6⟩ := h3 j hj
    exact ⟨hv, h5, h6.kept hg (hs.row_ne h6)⟩

/-- Growth and writes in blocks that are new. -/
theorem grown_new {w a b : World} {S S' : Option Nat} (h : w.grownBy a S) (k : a.grownBy b S') (hn : ∀ x, S' = some x → w.heap.size ≤ x) : w.grownBy b S :=
  ⟨k.os.trans h.os, k.tape.trans h.tape, k.output.trans h.output, Nat.le_trans h.size k.size, fun i hi hne => by
    rw [k.block i (Nat.lt_of_lt_of_le hi h.size) (fun e => by have := hn i e.symm; omega)]
    exact h.block i hi hne⟩
theorem grown_below {w a b : World} {S : Option Nat} (h : w.grownBy a S) (k : Below a.heap.size a b) : w.grownBy b S :=
  ⟨k.os.trans h.os, k.tape.trans h.tape, k.output.trans h.output, Nat.le_trans h.size k.size, fun i hi hne => by
    rw [k.block i (Nat.lt_of_lt_of_le hi h.size)]
    exact h.block i hi hne⟩

/-! ### append(row, x), told where the new row lies -/
set_option maxRecDepth 100000 in
theorem append_intG {ops : Array Oper} {rest : List Oper} {o : Oper} {a : Act} {Q : Exit → Act → World → Prop} {s x : Operand} {A q : Nat} {v : Value} {l : List Int} {wr : World}
    (hM : RowI A wr.heap.size wr v l) (hA : A ≤ wr.heap.size) (hq : q = wr.heap.size) (n : Int) (h0 : l ≠ []) (hgd : o.guard = none)
    (ho : o.op = .call { callee := .builtin .append, args := #[s, x], argTypes := #[25, 25] }) (hs : a.eval s = v)
    (hx : a.eval x = .slice (some ⟨q, 0, none⟩) 1 1) (hlen : l.length ≤ 4194304)
    (h : ∀ v' w', RowI A w'.heap.size w' v' (l ++ [n]) → wr.grownBy w' v.ownBlock → (∀ g, v'.ownBlock = some g → v.ownBlock = some g ∨ wr.heap.size ≤ g) → wpList Try.prog ops Q rest (a.put o.dst v') w') :
    wpList Try.prog ops Q (o :: rest) a (wr.alloc (.cells #[.int .i64 n] 3)) := by
  subst hq
  obtain ⟨h1, h2⟩ := hM
  obtain ⟨i0, hi, hz0, hz1, hz2⟩ := info_parts Try.infoInt
  have h1a := h1.alloc (.cells #[.int .i64 n] 3)
  have hnew : ∀ j u, [Value.int .i64 n][j]? = some u → (wr.alloc (.cells #[.int .i64 n] 3)).cell? ((⟨wr.heap.size, 0, none⟩ : Addr).add j) = some u := by
    intro j u hu
    match j, hu with
    | 0, hu =>
      simp at hu
      subst hu
      rw [Addr.add_lit, cell_of_row _ wr.heap.size 0 _ _ _ (MapKept.heap_alloc wr _).1]
      rfl
    | j + 1, hu => simp at hu
  have hone : ∀ u ∈ [Value.int .i64 n], u.oneCell' = true := by
    intro u hu
    simp at hu
    subst hu
    rfl
  have hlv : (intsV l).length = l.length := intsV_len l
  obtain ⟨v', w', hr, h3, h4, _⟩ := run_append_own (P := Try.prog) (wr.alloc (.cells #[.int .i64 n] 3)) A 25 o.type 3 i0 (.int .i64 0) 1 8 Try.underlying25 hi hz0 hz1 hz2 rfl (by omega) v l.length (intsV l) h1a ⟨wr.heap.size, 0, none⟩ 1 1 [.int .i64 n] rfl hnew hone (by unfold maxLen; omega) (by omega) (by simp; omega)
  have hloc : ∀ g, v'.ownBlock = some g → v.ownBlock = some g ∨ wr.heap.size ≤ g := by
    rcases h1.2 with ⟨rfl, he⟩ | ⟨g, cap, cur, rfl, hAg, hg, hn, hc, hsz, ht⟩
    · exact absurd (List.eq_nil_of_length_eq_zero he) h0
    · have hga : (wr.alloc (.cells #[.int .i64 n] 3)).heap[g]? = some (.cells cur 3 (0, 0)) := by
        rw [(MapKept.heap_alloc wr _).2 g (Array.getElem?_eq_some_iff.1 hg).1]; exact hg
      by_cases hroom : l.length + 1 ≤ cap
      · have hr2 := run_append_room (P := Try.prog) (wr.alloc (.cells #[.int .i64 n] 3)) 25 o.type 3 i0 Try.underlying25 hi g l.length cap cur hga ⟨wr.heap.size, 0, none⟩ 1 1 [.int .i64 n] (by rw [hz1]; rfl) hnew hone hroom (by rw [hz1]; simp; omega)
        rw [hr] at hr2
        injection hr2 with e1 e2
        subst e1
        intro g' hg'
        exact Or.inl hg'
      · have hr2 := run_append_grow (P := Try.prog) (wr.alloc (.cells #[.int .i64 n] 3)) 25 o.type 3 i0 (.int .i64 0) Try.underlying25 hi hz0 ⟨g, 0, none⟩ l.length cap (intsV l) (by rw [hz1, hlv]; omega) (h1a.cells (g := g) rfl) ⟨wr.heap.size, 0, none⟩ 1 1 [.int .i64 n] (by rw [hz1]; rfl) hnew (by omega) (by omega) (growslice_fits (by omega) (by rw [hz2]; omega))
        rw [hr] at hr2
        injection hr2 with e1 e2
        subst e1
        intro g' hg'
        right
        have : (wr.alloc (.cells #[.int .i64 n] 3)).heap.size = g' := by simpa [Value.ownBlock] using hg'
        simp at this
        omega
  refine Lib.wpList_append_run _ hgd s x 25 25 ho _ _ hs hx v' w' hr ?_
  refine h v' w' ⟨?_, fun g hgg => (h3.lt g hgg).2⟩ ⟨h4.os, h4.tape, h4.output, by have := h4.size; simp at this; omega, fun k hk hn => ?_⟩ hloc
  · have e : intsV l ++ [.int .i64 n] = intsV (l ++ [n]) := by simp [intsV]
    rw [e] at h3
    rw [List.length_append]
    exact h3
  · rw [h4.block k (by simp; omega) hn]
    exact (MapKept.heap_alloc wr _).2 k hk

/-! ### The library's sort -/
end Go.Proofs.Ytbmghddmilgngaa
