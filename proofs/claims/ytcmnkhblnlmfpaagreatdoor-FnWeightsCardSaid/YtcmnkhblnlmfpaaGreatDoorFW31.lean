/-
  The determinant by choosing a column for each row (no walk here): the sum over the columns that are left is the expansion along the first row.
  DeterminantOf of the program: the closure over the rows, and what the call returns.
  DeterminantOf of the program: what the call returns.
  The program's sets by bits, principal minors and witness: what the calls return.
  The program's WitnessOf and IsFinite: what the calls return.
  The program's IsAffine: what the call returns.
  Being connected does not change when the points are taken in another order; a connected diagram is one part with all points, and has a name; the symmetries are closed under composition (no walk here).
  The matrices of finite type among those of up to four points whose pairs have products of at most three: what the kernel decides of them (no walk here).
  SizeByName of the model and of the program: what the calls return.
-/
import Derived.Test.YtcmnkhblnlmfpaaGreatDoorFW21
import Derived.Deep.RegionHeld3
import Derived.OneCell
import Derived.Scope
import Derived.Laws.EntriesVeiled
import Derived.Test.YtcmnkhblnlmfpaaGreatDoorFW24
import Derived.Test.YtcmnkhblnlmfpaaGreatDoorFW25
import Derived.Test.YtcmnkhblnlmfpaaGreatDoorFW26
import Derived.Test.YtcmnkhblnlmfpaaGreatDoorFW27
import Derived.Test.YtcmnkhblnlmfpaaGreatDoorFW30
import Derived.Test.YtcmnkhblnlmfpaaGreatDoorFW28
namespace Go.Proofs.YtcmnkhblnlmfpaaGreatDoor
open Go.RowKit

/-! ### Signs of a choice -/
def sgnC (j : Nat) : List Nat → Int
  | [] => 1
  | c :: l => if j < c then -sgnC j l else sgnC j l
/-- The sign behind the first i columns of the choice. -/
def sgnT (j : Nat) (ch : List Nat) (i : Nat) : Int := sgnC j (ch.take i)
theorem sgnC_snoc (j c : Nat) (l : List Nat) : sgnC j (l ++ [c]) = if j < c then -sgnC j l else sgnC j l := by
  induction l with
  | nil => rfl
  | cons x l ih =>
    show (if j < x then -sgnC j (l ++ [c]) else sgnC j (l ++ [c])) = _
    rw [ih]
    show _ = if j < c then -(if j < x then -sgnC j l else sgnC j l) else (if j < x then -sgnC j l else sgnC j l)
    split <;> split <;> simp
theorem sgnC_one (j : Nat) (l : List Nat) : sgnC j l = 1 ∨ sgnC j l = -1 := by
  induction l with
  | nil => exact Or.inl rfl
  | cons x l ih =>
    show (if j < x then -sgnC j l else sgnC j l) = 1 ∨ (if j < x then -sgnC j l else sgnC j l) = -1
    split
    · rcases ih with h | h <;> rw [h] <;> simp
    · exact ih
/-! ### The sum over the columns that are left -/
def expF (m : List (List Int)) (n : Nat) : Nat → List Nat → Int
  | 0, _ => 1
  | k + 1, ch => ((List.range n).map fun j => if ch.contains j then 0 else sgnC j ch * entry m ch.length j * expF m n k (ch ++ [j])).sum
def expT (m : List (List Int)) (n k : Nat) (ch : List Nat) (j : Nat) : Int := if ch.contains j then 0 else sgnC j ch * entry m ch.length j * expF m n k (ch ++ [j])
def expS (m : List (List Int)) (n k : Nat) (ch : List Nat) (j : Nat) : Int := ((List.range j).map (expT m n k ch)).sum
theorem expS_step (m : List (List Int)) (n k : Nat) (ch : List Nat) (j : Nat) : expS m n k ch (j + 1) = expS m n k ch j + expT m n k ch j := by
  unfold expS
  rw [List.range_succ, List.map_append, List.sum_append]
  simp
theorem expS_end (m : List (List Int)) (n k : Nat) (ch : List Nat) : expS m n k ch n = expF m n (k + 1) ch := rfl
/-- 4, 4 * 3 * 4, .. : what a sum comes to at most. -/
def eB : Nat → Int
  | 0 => 1
  | n + 1 => 4 * (3 * eB n)
theorem eB_nonneg (n : Nat) : 0 ≤ eB n := by
  induction n with
  | zero => decide
  | succ n ih => exact Int.mul_nonneg (by omega) (by omega)
theorem expT_bd {m : List (List Int)} {n k : Nat} {ch : List Nat} {j : Nat} (hb : Bd m) (h : -(eB k) ≤ expF m n k (ch ++ [j]) ∧ expF m n k (ch ++ [j]) ≤ eB k) : -(3 * eB k) ≤ expT m n k ch j ∧ expT m n k ch j ≤ 3 * eB k := by
  have h0 := eB_nonneg k
  unfold expT
  split
  · omega
  · have hx : -3 ≤ sgnC j ch * entry m ch.length j ∧ sgnC j ch * entry m ch.length j ≤ 3 := by
      have := hb ch.length j
      rcases sgnC_one j ch with h1 | h1 <;> rw [h1] <;> omega
    exact mul_le3 hx h h0
theorem expS_bd {m : List (List Int)} {n k : Nat} {ch : List Nat} (hb : Bd m) (h : ∀ j, -(eB k) ≤ expF m n k (ch ++ [j]) ∧ expF m n k (ch ++ [j]) ≤ eB k) (j : Nat) :
    -((j : Int) * (3 * eB k)) ≤ expS m n k ch j ∧ expS m n k ch j ≤ (j : Int) * (3 * eB k) := by
  induction j with
  | zero => simp [expS]
  | succ j ih =>
    rw [expS_step]
    have h1 := expT_bd hb (h j)
    have e : ((j + 1 : Nat) : Int) * (3 * eB k) = (j : Int) * (3 * eB k) + 3 * eB k := by rw [Int.natCast_succ, Int.add_mul, Int.one_mul]
    rw [e]
    omega
theorem expF_bd {m : List (List Int)} {n : Nat} (hn : n ≤ 4) (hb : Bd m) (k : Nat) : ∀ ch, -(eB k) ≤ expF m n k ch ∧ expF m n k ch ≤ eB k := by
  induction k with
  | zero => intro ch; show -(1 : Int) ≤ 1 ∧ (1 : Int) ≤ 1; decide
  | succ k ih =>
    intro ch
    rw [← expS_end]
    have h1 := expS_bd (n := n) (ch := ch) hb (fun j => ih (ch ++ [j])) n
    have h0 := eB_nonneg k
    have h2 : (n : Int) * (3 * eB k) ≤ 4 * (3 * eB k) := Int.mul_le_mul_of_nonneg_right (by omega) (by omega)
    show -(4 * (3 * eB k)) ≤ _ ∧ _ ≤ 4 * (3 * eB k)
    omega
theorem eB_small (n : Nat) (h : n ≤ 4) : eB n ≤ 20736 := by
  rcases (show n = 0 ∨ n = 1 ∨ n = 2 ∨ n = 3 ∨ n = 4 by omega) with rfl | rfl | rfl | rfl | rfl <;> decide
/-! ### It is the determinant -/
theorem exp_det1 (m : List (List Int)) : expF m 1 1 [] = detF 1 m := by
  simp [expF, detF, sgnC, sgn, wdM, wdR, keepC, entry, List.range_succ, List.getD]
theorem exp_det2 (m : List (List Int)) : expF m 2 2 [] = detF 2 m := by
  have e : ∀ i j, ((m[i]?.getD [])[j]?.getD 0) = entry m i j := fun i j => by simp [entry, List.getD]
  simp [expF, detF, sgnC, sgn, wdM, wdR, keepC, List.range_succ, List.contains, List.elem]
  simp [entry, List.getD]
  simp only [e]
  grind
theorem exp_det3 (m : List (List Int)) : expF m 3 3 [] = detF 3 m := by
  have e : ∀ i j, ((m[i]?.getD [])[j]?.getD 0) = entry m i j := fun i j => by simp [entry, List.getD]
  simp [expF, detF, sgnC, sgn, wdM, wdR, keepC, List.range_succ, List.contains, List.elem]
  simp [entry, List.getD]
  simp only [e]
  grind
set_option maxHeartbeats 2000000 in
theorem exp_det4 (m : List (List Int)) : expF m 4 4 [] = detF 4 m := by
  have e : ∀ i j, ((m[i]?.getD [])[j]?.getD 0) = entry m i j := fun i j => by simp [entry, List.getD]
  simp [expF, detF, sgnC, sgn, wdM, wdR, keepC, List.range_succ, List.contains, List.elem]
  simp [entry, List.getD]
  simp only [e]
  grind
theorem exp_det (m : List (List Int)) (n : Nat) (h : n ≤ 4) : expF m n n [] = detF n m := by
  rcases (show n = 0 ∨ n = 1 ∨ n = 2 ∨ n = 3 ∨ n = 4 by omega) with rfl | rfl | rfl | rfl | rfl
  · rfl
  · exact exp_det1 m
  · exact exp_det2 m
  · exact exp_det3 m
  · exact exp_det4 m
end Go.Proofs.YtcmnkhblnlmfpaaGreatDoor
namespace Go.Proofs.YtcmnkhblnlmfpaaGreatDoor
open Go.RowKit

theorem sgnT_step (j : Nat) (ch : List Nat) (i : Nat) (h : i < ch.length) : sgnT j ch (i + 1) = if j < ch.getD i 0 then -sgnT j ch i else sgnT j ch i := by
  unfold sgnT
  rw [List.take_succ_eq_append_getElem h, sgnC_snoc]
  simp [List.getD, h]
theorem sgnT_one (j : Nat) (ch : List Nat) (i : Nat) : sgnT j ch i = 1 ∨ sgnT j ch i = -1 := sgnC_one _ _
set_option maxRecDepth 100000 in
theorem contains_at {ch : List Nat} {i j : Nat} (h : i < ch.length) (he : ch.getD i 0 = j) : ch.contains j = true := by
  rw [List.contains_iff_mem]
  subst he
  simp [List.getD, h]
theorem contains_not {ch : List Nat} {j : Nat} (h : ∀ i, i < ch.length → ch.getD i 0 ≠ j) : ch.contains j = false := by
  rw [Bool.eq_false_iff]
  intro hc
  rw [List.contains_iff_mem] at hc
  obtain ⟨i, hi, he⟩ := List.getElem_of_mem hc
  exact h i hi (by simp [List.getD, hi, he])

end Go.Proofs.YtcmnkhblnlmfpaaGreatDoor
namespace Go.Proofs.YtcmnkhblnlmfpaaGreatDoor
open Go.RowKit

end Go.Proofs.YtcmnkhblnlmfpaaGreatDoor
namespace Go.Proofs.YtcmnkhblnlmfpaaGreatDoor
open Go.RowKit

/-! ### The points of a number -/
theorem setK_four : ∀ n : Nat, n ≤ 4 → ∀ t : Nat, t < 2 ^ n → setK t 4 = setK t n := by decide +kernel
theorem bit_bool (t c : Nat) (ht : t < 16) (hc : c < 4) : (bits BinOp.and IntKind.i64 ((t : Int) / 2 ^ c) 1 == 1) = t.testBit c := bit_test t ht c hc
/-! ### The matrix of a set is valid -/
theorem set_isC4 {m : List (List Int)} (hI : IsC m) {t : Nat} (ht : t < 2 ^ m.length - 1) : IsC (pick m (intL (setK (t + 1) m.length))) ∧ (pick m (intL (setK (t + 1) m.length))).length = (setK (t + 1) m.length).length := by
  have hset := set_is hI.2.2.2 ht
  have hn0 := (sets_ok m.length hI.2.2.2 t ht)
  have hl4 : (setK (t + 1) m.length).length ≤ 4 := Nat.le_trans (setK_len _ _) hI.2.2.2
  have hlen : (pick m (intL (setK (t + 1) m.length))).length = (setK (t + 1) m.length).length := by rw [pick_len, intL_len]
  refine ⟨⟨?_, ?_, by rw [hlen]; have := hn0.1; omega, by rw [hlen]; exact hl4⟩, hlen⟩
  · intro i hi
    have := pick_rows m (intL (setK (t + 1) m.length))
    rw [intL_len] at this
    rw [hlen] at hi ⊢
    exact this i hi
  · intro i j hi hj
    rw [hlen] at hi hj
    have hasc : ∀ k, k < (setK (t + 1) m.length).length → ∀ l, l < k → (setK (t + 1) m.length).getD l 0 < (setK (t + 1) m.length).getD k 0 := by
      intro k
      induction k with
      | zero => intro _ l hl; omega
      | succ k ih =>
        intro hk l hl
        have h1 := (hn0.2 (k + 1) hk).2 (by omega)
        simp only [Nat.add_sub_cancel] at h1
        rcases Nat.lt_or_ge l k with h2 | h2
        · exact Nat.lt_trans (ih (by omega) l h2) h1
        · obtain rfl : l = k := by omega
          exact h1
    have he : ∀ p r, p < (setK (t + 1) m.length).length → r < (setK (t + 1) m.length).length → entry (pick m (intL (setK (t + 1) m.length))) p r = entry m ((setK (t + 1) m.length).getD p 0) ((setK (t + 1) m.length).getD r 0) := fun p r hp hr => by
      unfold pick
      rw [fullM_entry _ _ _ _ (by rw [intL_len]; exact hp) (by rw [intL_len]; exact hr)]
      unfold ptsF
      rw [intL_get _ _ hp, intL_get _ _ hr]; rfl
    have h0 := hI.2.1 _ _ (hn0.2 i hi).1 (hn0.2 j hj).1
    unfold okC at h0 ⊢
    rw [he i j hi hj, he j i hj hi]
    rcases h0 with ⟨h1, h2⟩ | ⟨h1, h2, h3⟩
    · refine Or.inl ⟨?_, h2⟩
      rcases Nat.lt_trichotomy i j with h4 | h4 | h4
      · have := hasc j hj i h4; omega
      · exact h4
      · have := hasc i hi j h4; omega
    · exact Or.inr ⟨fun e => h1 (by rw [e]), h2, h3⟩
theorem pick_detV {m : List (List Int)} (hI : IsC m) {t : Nat} (ht : t < 2 ^ m.length - 1) : detV (pick m (intL (setK (t + 1) m.length))) = minP m t := by
  obtain ⟨h1, h2⟩ := set_isC4 hI ht
  rw [detV_yes h1, h2]; rfl

/-! ### Minors -/
end Go.Proofs.YtcmnkhblnlmfpaaGreatDoor
namespace Go.Proofs.YtcmnkhblnlmfpaaGreatDoor
open Go.RowKit

theorem minK_get (m : List (List Int)) (k t : Nat) (h : t < k) : (minK m k).getD t 0 = minP m t := by simp [minK, List.getD, h]
end Go.Proofs.YtcmnkhblnlmfpaaGreatDoor
namespace Go.Proofs.YtcmnkhblnlmfpaaGreatDoor
open Go.RowKit

/-- The determinant is the last minor. -/
theorem setK_all : ∀ n, n ≤ 4 → 1 ≤ n → setK (2 ^ n - 1 - 1 + 1) n = List.range n := by decide +kernel
theorem pick_all {m : List (List Int)} (hI : IsC m) : pick m (intL (List.range m.length)) = m := by
  unfold pick
  rw [intL_len, List.length_range]
  apply List.ext_getElem
  · rw [fullF_len]
  · intro i h1 h2
    have hrow := hI.1 i h2
    have e : (fullF (ptsF m (intL (List.range m.length))) m.length)[i] = rowF (ptsF m (intL (List.range m.length))) m.length i := by simp [fullF]
    rw [e]
    have hg := getD_row m i h2
    apply List.ext_getElem
    · rw [rowF_len, ← hg, hrow]
    · intro j h3 h4
      have hj : j < m.length := by rw [rowF_len] at h3; exact h3
      have e2 : (rowF (ptsF m (intL (List.range m.length))) m.length i)[j] = ptsF m (intL (List.range m.length)) i j := by simp [rowF]
      rw [e2]
      unfold ptsF
      rw [intL_get _ _ (by rw [List.length_range]; exact h2), intL_get _ _ (by rw [List.length_range]; exact hj)]
      have ri : (List.range m.length).getD i 0 = i := by simp [List.getD, h2]
      have rj : (List.range m.length).getD j 0 = j := by simp [List.getD, hj]
      rw [ri, rj]
      show entry m i j = _
      unfold entry
      rw [hg]
      simp [List.getD, h4]
theorem minP_last {m : List (List Int)} (hI : IsC m) : minP m (2 ^ m.length - 1 - 1) = detF m.length m := by
  unfold minP
  rw [setK_all m.length hI.2.2.2 hI.2.2.1, pick_all hI, List.length_range]
/-- Connected, determinant 0, and the witness is the set of all points. -/
theorem affB_wit {m : List (List Int)} (hI : IsC m) (c : Bool) : affB c (minV m) = (c && ((detV m == 0) && decide ((witV m).length = m.length))) := by
  have hn1 := hI.2.2.1
  have hn4 := hI.2.2.2
  have hN : 1 ≤ 2 ^ m.length - 1 := by
    rcases (show m.length = 1 ∨ m.length = 2 ∨ m.length = 3 ∨ m.length = 4 by omega) with e | e | e | e <;> rw [e] <;> decide
  have hget : ∀ t, t < 2 ^ m.length - 1 → (minV m).getD t 0 = minP m t := fun t ht => by rw [minV_yes hI, minK_get _ _ _ ht]
  have hlen : (minV m).length = 2 ^ m.length - 1 := by rw [minV_yes hI, minK_len]
  have hlast : (minV m).getD ((minV m).length - 1) 0 = detV m := by rw [hlen, hget _ (by omega), minP_last hI, detV_yes hI]
  have hw0 : ∀ t, t < 2 ^ m.length - 1 → (setK (t + 1) m.length).length = m.length → t = 2 ^ m.length - 1 - 1 := by
    have key : ∀ n, n ≤ 4 → 1 ≤ n → ∀ t, t < 2 ^ n - 1 → (setK (t + 1) n).length = n → t = 2 ^ n - 1 - 1 := by decide +kernel
    exact key m.length hn4 hn1
  by_cases hA : affC c (minV m)
  · rw [affB_yes hA]
    obtain ⟨h1, h2, h3⟩ := hA
    rw [hlast] at h2
    have hnone : ∀ k, k ≤ 2 ^ m.length - 1 - 1 → witT m k = none := by
      intro k
      induction k with
      | zero => intro _; rfl
      | succ k ih =>
        intro hk
        refine witT_step_no (ih (by omega)) ?_
        have := h3 k (by rw [hlen]; omega)
        rw [hget k (by omega)] at this
        omega
    have hhit : witT m (2 ^ m.length - 1) = some (2 ^ m.length - 1 - 1) := witT_hit (hnone _ (Nat.le_refl _)) (by rw [minP_last hI, ← detV_yes hI, h2]; decide) _ (by omega)
    have hwl : (witV m).length = m.length := by rw [witV_hit hI hhit, intL_len, setK_all m.length hn4 hn1, List.length_range]
    rw [h1, h2, hwl]; simp
  · rw [affB_no hA]
    symm
    rw [Bool.eq_false_iff]
    intro hc
    rw [Bool.and_eq_true, Bool.and_eq_true, decide_eq_true_eq, beq_iff_eq] at hc
    obtain ⟨h1, h2, h3⟩ := hc
    refine hA ⟨h1, by rw [hlast]; exact h2, fun i hi => ?_⟩
    rw [hlen] at hi
    rw [hget i (by omega)]
    cases ht : witT m (2 ^ m.length - 1) with
    | none =>
      rw [witV_none hI ht] at h3
      simp at h3
      omega
    | some t =>
      rw [witV_hit hI ht, intL_len] at h3
      have ht2 : t < 2 ^ m.length - 1 := by
        have := List.mem_of_find?_eq_some ht
        exact List.mem_range.1 this
      have hte := hw0 t ht2 h3
      have hfind := ht
      unfold witT at hfind
      rw [List.find?_range_eq_some] at hfind
      have := hfind.2.2 i (by omega)
      simpa using this

end Go.Proofs.YtcmnkhblnlmfpaaGreatDoor
namespace Go.Proofs.YtcmnkhblnlmfpaaGreatDoor
open Go.RowKit

/-! ### Connected -/
def perG (n : Nat) (g : Nat → Nat → Bool) (q : List Nat) (i j : Nat) : Bool := if j < n then g (q.getD i 0) (q.getD j 0) else false
def ConnOk (n : Nat) : Prop := ∀ a b c d e f : Bool, ∀ q ∈ ords n, (partsM (grN (grE (perG n (grE a b c d e f) q 0 1) (perG n (grE a b c d e f) q 0 2) (perG n (grE a b c d e f) q 0 3) (perG n (grE a b c d e f) q 1 2) (perG n (grE a b c d e f) q 1 3) (perG n (grE a b c d e f) q 2 3)) n) n n).length = (partsM (grN (grE a b c d e f) n) n n).length
instance (n : Nat) : Decidable (ConnOk n) := by unfold ConnOk; infer_instance
theorem conn_ok1 : ConnOk 1 := by decide +kernel
theorem conn_ok2 : ConnOk 2 := by decide +kernel
theorem conn_ok3 : ConnOk 3 := by decide +kernel
theorem conn_ok4 : ConnOk 4 := by decide +kernel
theorem conn_ok (n : Nat) (h1 : 1 ≤ n) (h4 : n ≤ 4) : ConnOk n := by
  rcases (show n = 1 ∨ n = 2 ∨ n = 3 ∨ n = 4 by omega) with rfl | rfl | rfl | rfl
  · exact conn_ok1
  · exact conn_ok2
  · exact conn_ok3
  · exact conn_ok4
theorem ords_inj : ∀ n, n ≤ 4 → ∀ q ∈ ords n, ∀ i, i < n → ∀ j, j < n → (q.getD i 0 = q.getD j 0 ↔ i = j) := by decide +kernel
theorem nbF_per {a : List (List Int)} {q : List Nat} (hI : IsC a) (hq : q ∈ ords a.length) (hb : (pick a (intL q)).length = a.length) (i j : Nat) (hij : i < j) :
    nbF (pick a (intL q)) i j = perG a.length (grE (nbF a 0 1) (nbF a 0 2) (nbF a 0 3) (nbF a 1 2) (nbF a 1 3) (nbF a 2 3)) q i j := by
  have h4 := hI.2.2.2
  obtain ⟨hql, hqn⟩ := ords_lt a.length h4 q hq
  unfold perG
  by_cases hj : j < a.length
  · rw [if_pos hj, ← nbF_gr hI _ _ (hqn j hj)]
    have he : entry (pick a (intL q)) i j = entry a (q.getD i 0) (q.getD j 0) := by
      rw [pick_eF, fullM_entry _ _ _ _ (by omega) (by omega)]; rfl
    unfold nbF
    rw [he, decide_eq_decide]
    have := ords_inj a.length h4 q hq i (by omega) j hj
    constructor
    · rintro ⟨h1, h2⟩; exact ⟨fun e => h1 (by omega), h2⟩
    · rintro ⟨h1, h2⟩; exact ⟨fun e => h1 (by rw [e]), h2⟩
  · rw [if_neg hj]
    have : entry (pick a (intL q)) i j = 0 := by
      rw [pick_eF]
      unfold entry
      by_cases hi : i < q.length
      · rw [fullM_get _ _ _ hi, List.getD_eq_getElem?_getD, List.getElem?_eq_none (by rw [rowF_len]; omega)]; rfl
      · have e : (fullF (eF a q) q.length).getD i [] = [] := by rw [List.getD_eq_getElem?_getD, List.getElem?_eq_none (by rw [fullF_len]; omega)]; rfl
        rw [e]; simp
    unfold nbF
    exact decide_eq_false (fun hh => hh.2 this)
theorem parts_inv {a : List (List Int)} {q : List Nat} (hI : IsC a) (hq : q ∈ ords a.length) (hB : IsC (pick a (intL q))) (hb : (pick a (intL q)).length = a.length) : (partsV (pick a (intL q))).length = (partsV a).length := by
  rw [partsV_yes hB, partsV_yes hI, List.length_map, List.length_map]
  unfold partsL
  rw [nbG_gr hB, nbG_gr hI, hb, nbF_per hI hq hb 0 1 (by omega), nbF_per hI hq hb 0 2 (by omega), nbF_per hI hq hb 0 3 (by omega), nbF_per hI hq hb 1 2 (by omega), nbF_per hI hq hb 1 3 (by omega), nbF_per hI hq hb 2 3 (by omega)]
  exact conn_ok a.length hI.2.2.1 hI.2.2.2 _ _ _ _ _ _ q hq
/-! ### A connected diagram has a name -/
def OneOk (n : Nat) : Prop := ∀ a b c d e f : Bool, (partsM (grN (grE a b c d e f) n) n n).length = 1 → partsM (grN (grE a b c d e f) n) n n = [List.range n]
instance (n : Nat) : Decidable (OneOk n) := by unfold OneOk; infer_instance
theorem one_ok : ∀ n, n ≤ 4 → 1 ≤ n → OneOk n := by decide +kernel
theorem one_part {m : List (List Int)} (hc : connB (partsV m).length = true) : (partsV m).length = 1 ∧ partK m 0 = m := by
  have hI := conn_isC hc
  have h1 : (partsV m).length = 1 := by
    unfold connB at hc
    simpa using hc
  refine ⟨h1, ?_⟩
  have h2 := h1
  rw [partsV_yes hI, List.length_map] at h2
  have h3 : partsL m = [List.range m.length] := by
    unfold partsL at h2 ⊢
    rw [nbG_gr hI] at h2 ⊢
    exact one_ok m.length hI.2.2.2 hI.2.2.1 _ _ _ _ _ _ h2
  unfold partK
  have hs := part_sub (m := m) (k := 0) (by omega)
  rw [subM_yes hs, partsV_yes hI, h3]
  exact pick_all hI
theorem nameO_some {m : List (List Int)} (hc : connB (partsV m).length = true) : nameO m ≠ [] := by
  obtain ⟨h1, h2⟩ := one_part hc
  unfold nameO
  rw [h1, nameS_succ, h2]
  simp only [if_true, List.nil_append]
  unfold nameP
  cases hn : nameT m 17 with
  | none => simp [hc]
  | some t =>
    have ht : t < 17 := List.mem_range.1 (List.mem_of_find?_eq_some hn)
    exact (show ∀ t, t < 17 → namesL.getD t [] ≠ [] by decide) t ht
/-! ### Symmetries -/
theorem comp_ok : ∀ n, n ≤ 4 → ∀ q ∈ ords n, ∀ r ∈ ords n, mapK q r ∈ ords n := by decide +kernel
theorem selT_mem {m : List (List Int)} {q : List Nat} : q ∈ selT m m (ords m.length).length ↔ q ∈ ords m.length ∧ pick m (intL q) = m := by
  unfold selT
  rw [List.take_length, List.mem_filter]
  unfold selP eqM
  rw [decide_eq_true_eq]
/-- The rows of the symmetries, as lists of points. -/
theorem sym_row {m : List (List Int)} {k : Nat} (hk : k < (obV m m).length) : IsC m ∧ ∃ q ∈ ords m.length, (obV m m).getD k [] = intL q ∧ pick m (intL q) = m := by
  by_cases hI : IsC m
  · refine ⟨hI, ?_⟩
    rw [obV_yes hI] at hk ⊢
    rw [tabL_len] at hk
    rw [tabL_get _ _ hk]
    have hm : (selT m m (ords m.length).length).getD k [] ∈ selT m m (ords m.length).length := by
      simp only [List.getD, hk, List.getElem?_eq_getElem, Option.getD_some]
      exact List.getElem_mem hk
    obtain ⟨h1, h2⟩ := selT_mem.1 hm
    exact ⟨_, h1, rfl, h2⟩
  · rw [obV_no hI] at hk; simp at hk
theorem sym_comp {m : List (List Int)} {q r : List Nat} (hI : IsC m) (hq : q ∈ ords m.length) (hr : r ∈ ords m.length) (h1 : pick m (intL q) = m) (h2 : pick m (intL r) = m) : intL (mapK q r) ∈ obV m m := by
  obtain ⟨hql, hqn⟩ := ords_lt m.length hI.2.2.2 q hq
  obtain ⟨hrl, hrn⟩ := ords_lt m.length hI.2.2.2 r hr
  rw [obV_yes hI]
  unfold tabL
  refine List.mem_map_of_mem (selT_mem.2 ⟨comp_ok m.length hI.2.2.2 q hq r hr, ?_⟩)
  rw [← pick_pick m q r (fun i hi => by rw [hql]; exact hrn i (by omega)), h1, h2]
/-- Where an isomorphism is found. -/
theorem iso_found {a b : List (List Int)} (h : isoB a b = true) : IsC a ∧ IsC b ∧ ∃ q ∈ ords a.length, isoL a b = intL q ∧ pick a (intL q) = b ∧ b.length = a.length := by
  have hne : (obV a b).length ≠ 0 := by
    unfold isoB at h
    simpa using h
  by_cases hg : IsC a ∧ IsC b ∧ a.length = b.length
  · obtain ⟨hI, hJ, hl⟩ := hg
    refine ⟨hI, hJ, ?_⟩
    unfold isoL
    rw [obV_yes hI] at hne ⊢
    rw [tabL_len] at hne
    rw [tabL_get _ _ (by omega)]
    have hm : (selT a b (ords a.length).length).getD 0 [] ∈ selT a b (ords a.length).length := by
      have hk : 0 < (selT a b (ords a.length).length).length := by omega
      simp only [List.getD, hk, List.getElem?_eq_getElem, Option.getD_some]
      exact List.getElem_mem hk
    unfold selT at hm
    rw [List.take_length, List.mem_filter] at hm
    have h2 := hm.2
    unfold selP eqM at h2
    rw [decide_eq_true_eq] at h2
    refine ⟨_, hm.1, ?_, ?_, hl.symm⟩
    · unfold selT; rw [List.take_length]
    · exact h2
  · rw [obV_bad hg] at hne; simp at hne
end Go.Proofs.YtcmnkhblnlmfpaaGreatDoor
namespace Go.Proofs.YtcmnkhblnlmfpaaGreatDoor
open Go.RowKit

/-! ### Codes of pairs -/
def cA (x : Nat) : Int := match x with
  | 1 => -1
  | 2 => -1
  | 3 => -2
  | 4 => -1
  | 5 => -3
  | _ => 0
def cB (x : Nat) : Int := match x with
  | 1 => -1
  | 2 => -2
  | 3 => -1
  | 4 => -3
  | 5 => -1
  | _ => 0
def cmF (a b c d e f : Nat) (i j : Nat) : Int := match i, j with
  | 0, 1 => cA a
  | 1, 0 => cB a
  | 0, 2 => cA b
  | 2, 0 => cB b
  | 0, 3 => cA c
  | 3, 0 => cB c
  | 1, 2 => cA d
  | 2, 1 => cB d
  | 1, 3 => cA e
  | 3, 1 => cB e
  | 2, 3 => cA f
  | 3, 2 => cB f
  | 0, 0 => 2
  | 1, 1 => 2
  | 2, 2 => 2
  | 3, 3 => 2
  | _, _ => 0
def nz (x : Nat) : Bool := decide (x ≠ 0)
def parC (n a b c d e f : Nat) : List (List Nat) := partsM (grN (grE (nz a) (nz b) (nz c) (nz d) (nz e) (nz f)) n) n n

/-! ### Positive minors -/
def eS (F : Nat → Nat → Int) (S : List Nat) (i j : Nat) : Int := F (S.getD i 0) (S.getD j 0)
def posT (F : Nat → Nat → Int) (S : List Nat) (t : Nat) : Bool := decide (0 < PF (setK (t + 1) S.length).length (eS F (mapK S (setK (t + 1) S.length))))
def posS (F : Nat → Nat → Int) (S : List Nat) : Bool := (List.range (2 ^ S.length - 1)).all (posT F S)

/-! ### No part of a matrix of parts is lost -/
def opts (b : Bool) : List Nat := if b then [1, 2, 3, 4, 5] else [0]
def SplitOk (n : Nat) : Prop := ∀ a b c d e f : Bool, (partsM (grN (grE a b c d e f) n) n n).length = 1 ∨
  ∀ a' ∈ opts a, ∀ b' ∈ opts b, ∀ c' ∈ opts c, ∀ d' ∈ opts d, ∀ e' ∈ opts e, ∀ f' ∈ opts f,
    (partsM (grN (grE a b c d e f) n) n n).all (posS (cmF a' b' c' d' e' f')) = posS (cmF a' b' c' d' e' f') (List.range n)
instance (n : Nat) : Decidable (SplitOk n) := by unfold SplitOk; infer_instance
def restN (k : Nat) (E : Nat → Nat → Bool) (p : List Nat) : List (List Nat) := partsM (grN (grE (perG k E p 0 1) (perG k E p 0 2) (perG k E p 0 3) (perG k E p 1 2) (perG k E p 1 3) (perG k E p 2 3)) k) k k
def PartOk (n : Nat) : Prop := ∀ a b c d e f : Bool, (1 ≤ (partsM (grN (grE a b c d e f) n) n n).length ∧ (partsM (grN (grE a b c d e f) n) n n).length ≤ 4) ∧
  (∀ p ∈ partsM (grN (grE a b c d e f) n) n n, 1 ≤ p.length ∧ p.length ≤ n ∧ (∀ k, k < p.length → p.getD k 0 < n ∧ ∀ j, j < k → p.getD j 0 < p.getD k 0) ∧ (restN p.length (grE a b c d e f) p).length = 1) ∧
  (∀ i, i < n → ∀ j, j < n → grE a b c d e f i j = true → ((partsM (grN (grE a b c d e f) n) n n).any fun p => p.contains i && p.contains j) = true)
instance (n : Nat) : Decidable (PartOk n) := by unfold PartOk; infer_instance
theorem part_ok1 : PartOk 1 := by decide +kernel
theorem part_ok2 : PartOk 2 := by decide +kernel
theorem part_ok3 : PartOk 3 := by decide +kernel
theorem part_ok4 : PartOk 4 := by decide +kernel

/-! ### What is connected and positive has a name -/
def neg3 (x y z : Nat) : Bool := decide (P3 2 (cA x) (cA y) (cB x) 2 (cA z) (cB y) (cB z) 2 ≤ 0)
def named (n : Nat) (F : Nat → Nat → Int) : Bool := (List.range 12).any fun t => (ords n).any fun q => decide (fullF (eS F q) n = typeM (namesL.getD t []))
def Name4 : Prop := ∀ a ∈ List.range 6, ∀ b ∈ List.range 6, ∀ d ∈ List.range 6, neg3 a b d = true ∨ ∀ c ∈ List.range 6, ∀ e ∈ List.range 6, ∀ f ∈ List.range 6,
  neg3 a c e = true ∨ neg3 b c f = true ∨ neg3 d e f = true ∨ P4 (cmF a b c d e f) ≤ 0 ∨ (parC 4 a b c d e f).length ≠ 1 ∨ named 4 (cmF a b c d e f) = true
instance : Decidable Name4 := by unfold Name4; infer_instance
def Name3 : Prop := ∀ a, a < 6 → ∀ b, b < 6 → ∀ d, d < 6 → neg3 a b d = true ∨ (parC 3 a b 0 d 0 0).length ≠ 1 ∨ named 3 (cmF a b 0 d 0 0) = true
instance : Decidable Name3 := by unfold Name3; infer_instance
def Name2 : Prop := ∀ a, a < 6 → (parC 2 a 0 0 0 0 0).length ≠ 1 ∨ named 2 (cmF a 0 0 0 0 0) = true
instance : Decidable Name2 := by unfold Name2; infer_instance
theorem name_2 : Name2 := by decide +kernel
theorem name_1 : named 1 (cmF 0 0 0 0 0 0) = true := by decide +kernel
theorem name_3 : Name3 := by decide +kernel
theorem name_4 : Name4 := by decide +kernel
theorem types_pos : ∀ t, t < 12 → posS (entry (typeM (namesL.getD t []))) (List.range (typeM (namesL.getD t [])).length) = true := by decide +kernel
theorem split_ok1 : SplitOk 1 := by decide +kernel
theorem split_ok2 : SplitOk 2 := by decide +kernel
theorem split_ok3 : SplitOk 3 := by decide +kernel
theorem split_ok4 : SplitOk 4 := by decide +kernel
end Go.Proofs.YtcmnkhblnlmfpaaGreatDoor
namespace Go.Proofs.YtcmnkhblnlmfpaaGreatDoor
open Go.RowKit

/-! ### Sizes -/
def sizeTab : List (List UInt8 × Nat) := [([65, 49], 2), ([65, 50], 6), ([65, 51], 24), ([65, 52], 120), ([66, 50], 8), ([66, 51], 48), ([67, 51], 48), ([66, 52], 384), ([67, 52], 384), ([68, 52], 192), ([70, 52], 1152), ([71, 50], 12)]
def sizeN (l : List UInt8) : Nat := match sizeTab.find? fun p => p.1 == l with
  | some p => p.2
  | none => 0
theorem sizeN_le (l : List UInt8) : sizeN l ≤ 1152 := by
  unfold sizeN
  split
  · rename_i p hp
    have := List.mem_of_find?_eq_some hp
    exact (show ∀ p ∈ sizeTab, p.2 ≤ 1152 by decide) _ this
  · omega
def prodN (L : List (List UInt8)) (k : Nat) : Nat := ((L.take k).map sizeN).foldl (· * ·) 1
theorem prodN_step (L : List (List UInt8)) (k : Nat) (h : k < L.length) : prodN L (k + 1) = prodN L k * sizeN L[k] := by
  unfold prodN
  rw [List.take_succ_eq_append_getElem h, List.map_append, List.foldl_append]; rfl
theorem prodN_next (L : List (List UInt8)) (k : Nat) (h : k < L.length) : prodN L (k + 1) = prodN L k * sizeN (L.getD k []) := by
  rw [prodN_step L k h]; simp [List.getD, h]
theorem prodN_le (L : List (List UInt8)) : ∀ k, k ≤ L.length → prodN L k ≤ 1152 ^ k
  | 0, _ => by simp [prodN]
  | k + 1, h => by
    rw [prodN_step L k (by omega), Nat.pow_succ]
    exact Nat.mul_le_mul (prodN_le L k (by omega)) (sizeN_le _)
def sizeO (l : List UInt8) : Nat := if (cutL 120 l).length > 4 then 0 else prodN (cutL 120 l) (cutL 120 l).length
/-- Whatever is no name of the table. -/
def NoName (l : List UInt8) : Prop := ∀ p ∈ sizeTab, p.1 ≠ l
theorem sizeN_no {l : List UInt8} (h : NoName l) : sizeN l = 0 := by
  unfold sizeN
  rw [List.find?_eq_none.2 (fun p hp => by simpa using h p hp)]
theorem size_cases (l : List UInt8) : NoName l ∨ ∃ i, ∃ h : i < 12, l = (sizeTab[i]'(show i < sizeTab.length from h)).1 := by
  by_cases h : NoName l
  · exact Or.inl h
  · right
    have h' : ∃ p ∈ sizeTab, p.1 = l := Classical.byContradiction fun hn => h fun p hp e => hn ⟨p, hp, e⟩
    obtain ⟨p, hp, rfl⟩ := h'
    obtain ⟨i, hi, rfl⟩ := List.getElem_of_mem hp
    exact ⟨i, hi, rfl⟩
theorem no_lit {s : ByteArray} (h : NoName s.data.toList) {l : List UInt8} (hl : ∃ p ∈ sizeTab, p.1 = l) : (s.toList == l) = false := by
  rw [ByteArray.toList_eq, beq_eq_false_iff_ne]
  intro e
  obtain ⟨p, hp, he⟩ := hl
  exact h p hp (he.trans e.symm)

/-! ### The model -/
theorem pow_le4 : ∀ k, k ≤ 4 → 1152 ^ k ≤ 1761205026816 := by decide +kernel
end Go.Proofs.YtcmnkhblnlmfpaaGreatDoor
