/-
  Determinants of the model: l4Without and l4Det, what the calls return.
  All sets of points in the order of binary numbers, principal minors and the first set whose minor is not positive (no walk here).
  The model's sets by masks, principal minors and witness: what the calls return.
  WitnessOf, IsFinite and IsAffine of the model: what the calls return.
  NameOfPart of the model: what the call returns.
  A law whose row lists one package-level variable, an array of strings: the variable reads as it read; what its cells hold; that the heap of the door meets the row's condition.
  NameOfPart of the program: what the call returns.
-/
import Derived.Test.YtgpcacgafbhhdaaDoorSet
import Derived.Deep.RegionHeld3
import Derived.Test.YtgpcacgafbhhdaaDoorSubS
import Derived.Test.YtgpcacgafbhhdaaDoorPart
import Derived.Test.YtgpcacgafbhhdaaDoorCyc
import Derived.Test.YtgpcacgafbhhdaaDoorTyS
import Derived.Test.YtgpcacgafbhhdaaDoorIsoS
import Derived.Test.YtgpcacgafbhhdaaDoorRows
import Derived.Test.YtgpcacgafbhhdaaDoorSeat
import Derived.Test.YtgpcacgafbhhdaaDoorLaw
import Derived.ChangeVars
import Derived.LaidMore
import Derived.OpenShut
import Derived.Stop.Joined
import Derived.Lib.LaidTab
import Derived.Stop.LaidErr
import Derived.Below
import Derived.Test.YtgpcacgafbhhdaaDoorTyI
namespace Go.Proofs.YtgpcacgafbhhdaaDoor
open Go.RowKit

/-! ### Without the first row and a column -/
def keepC (n col : Nat) : List Nat := (List.range n).filter fun j => decide (j ≠ col)
def wdR (m : List (List Int)) (col i k : Nat) : List Int := (keepC k col).map (entry m i)
def wdM (m : List (List Int)) (n col k : Nat) : List (List Int) := (List.range k).map fun i => wdR m col (i + 1) n
theorem wdR_yes {m : List (List Int)} {col i k : Nat} (h : k ≠ col) : wdR m col i k ++ [entry m i k] = wdR m col i (k + 1) := by
  unfold wdR keepC
  rw [List.range_succ, List.filter_append, List.map_append]
  simp [h]
theorem wdR_no {m : List (List Int)} {col i k : Nat} (h : k = col) : wdR m col i k = wdR m col i (k + 1) := by
  unfold wdR keepC
  rw [List.range_succ, List.filter_append, List.map_append]
  simp [h]
theorem keepC_len (k col : Nat) : (keepC k col).length = if col < k then k - 1 else k := by
  induction k with
  | zero => rfl
  | succ k ih =>
    unfold keepC at ih ⊢
    rw [List.range_succ, List.filter_append, List.length_append, ih]
    by_cases h : k = col
    · subst h; simp
    · by_cases h2 : col < k
      · simp [h, h2, show col < k + 1 by omega]; omega
      · simp [h, h2, show ¬ col < k + 1 by omega]
theorem wdR_len (m : List (List Int)) (col i k : Nat) : (wdR m col i k).length ≤ k := by
  unfold wdR
  rw [List.length_map, keepC_len]
  split <;> omega
theorem wdR_full (m : List (List Int)) (col i n : Nat) (h : col < n + 1) : (wdR m col i (n + 1)).length = n := by
  unfold wdR
  rw [List.length_map, keepC_len, if_pos h]; rfl
theorem wdM_len (m : List (List Int)) (n col k : Nat) : (wdM m n col k).length = k := by simp [wdM]
theorem wdM_step (m : List (List Int)) (n col k : Nat) : wdM m n col k ++ [wdR m col (k + 1) n] = wdM m n col (k + 1) := by
  unfold wdM
  rw [List.range_succ, List.map_append]; rfl
theorem wdM_get (m : List (List Int)) (n col k i : Nat) (h : i < k) : (wdM m n col k).getD i [] = wdR m col (i + 1) n := by simp [wdM, List.getD, h]
theorem wdM_rows (m : List (List Int)) (col n : Nat) (h : col < n + 1) : Rows0 (wdM m (n + 1) col n) n n := fun i hi => by
  rw [wdM_get _ _ _ _ _ hi]; exact wdR_full m col (i + 1) n h
/-- Entries from -3 to 3. -/
def Bd (m : List (List Int)) : Prop := ∀ i j, -3 ≤ entry m i j ∧ entry m i j ≤ 3
theorem wdM_bd {m : List (List Int)} (hb : Bd m) (n col k : Nat) : Bd (wdM m n col k) := fun i j => by
  by_cases hi : i < k
  · unfold entry
    rw [wdM_get _ _ _ _ _ hi]
    by_cases hj : j < (wdR m col (i + 1) n).length
    · have e : (wdR m col (i + 1) n).getD j 0 = (wdR m col (i + 1) n)[j] := by simp [List.getD, hj]
      rw [e]
      have hm := List.getElem_mem hj
      unfold wdR at hm
      obtain ⟨c, _, hc⟩ := List.mem_map.1 hm
      have : (wdR m col (i + 1) n)[j] = entry m (i + 1) c := hc.symm
      rw [this]
      exact hb _ _
    · rw [List.getD_eq_getElem?_getD, List.getElem?_eq_none (by omega)]; decide
  · unfold entry
    have e : (wdM m n col k).getD i [] = [] := by rw [List.getD_eq_getElem?_getD, List.getElem?_eq_none (by rw [wdM_len]; omega)]; rfl
    rw [e]; simp
theorem isC_bd {m : List (List Int)} (h : IsC m) : Bd m := fun i j => by
  by_cases hi : i < m.length
  · by_cases hj : j < m.length
    · rcases h.2.1 i j hi hj with h1 | h1
      · rw [h1.2]; decide
      · have := h1.2.1; omega
    · have h1 := h.1 i hi
      have : entry m i j = 0 := by
        unfold entry
        have h2 : (m.getD i []).length ≤ j := by omega
        rw [List.getD_eq_getElem?_getD (l := m.getD i []), List.getElem?_eq_none h2]; rfl
      rw [this]; decide
  · have : entry m i j = 0 := by unfold entry; simp [List.getD, List.getElem?_eq_none (show m.length ≤ i by omega)]
    rw [this]; decide

/-! ### Determinants -/
def sgn (j : Nat) (x : Int) : Int := if j % 2 = 1 then -x else x
def detF : Nat → List (List Int) → Int
  | 0, _ => 1
  | n + 1, m => ((List.range (n + 1)).map fun j => sgn j (entry m 0 j * detF n (wdM m (n + 1) j n))).sum
def detS (n : Nat) (m : List (List Int)) (k : Nat) : Int := ((List.range k).map fun j => sgn j (entry m 0 j * detF n (wdM m (n + 1) j n))).sum
theorem detS_step (n : Nat) (m : List (List Int)) (k : Nat) : detS n m (k + 1) = detS n m k + sgn k (entry m 0 k * detF n (wdM m (n + 1) k n)) := by
  unfold detS
  rw [List.range_succ, List.map_append, List.sum_append]
  simp
theorem detS_end (n : Nat) (m : List (List Int)) : detS n m (n + 1) = detF (n + 1) m := rfl
def dB : Nat → Int
  | 0 => 1
  | n + 1 => (n + 1 : Nat) * (3 * dB n)
theorem sgn_le {j : Nat} {x b : Int} (h : -b ≤ x ∧ x ≤ b) : -b ≤ sgn j x ∧ sgn j x ≤ b := by
  unfold sgn
  split <;> omega
theorem mul_le3 {x y b : Int} (hx : -3 ≤ x ∧ x ≤ 3) (hy : -b ≤ y ∧ y ≤ b) (hb : 0 ≤ b) : -(3 * b) ≤ x * y ∧ x * y ≤ 3 * b := by
  obtain ⟨h1, h2⟩ := hx
  rcases (show x = -3 ∨ x = -2 ∨ x = -1 ∨ x = 0 ∨ x = 1 ∨ x = 2 ∨ x = 3 by omega) with rfl | rfl | rfl | rfl | rfl | rfl | rfl <;> omega
theorem dB_nonneg (n : Nat) : 0 ≤ dB n := by
  induction n with
  | zero => decide
  | succ n ih => exact Int.mul_nonneg (by omega) (by omega)
theorem detS_bd {n : Nat} {m : List (List Int)} (hb : Bd m) (hd : ∀ j, -(dB n) ≤ detF n (wdM m (n + 1) j n) ∧ detF n (wdM m (n + 1) j n) ≤ dB n) (k : Nat) :
    -((k : Int) * (3 * dB n)) ≤ detS n m k ∧ detS n m k ≤ (k : Int) * (3 * dB n) := by
  induction k with
  | zero => simp [detS]
  | succ k ih =>
    rw [detS_step]
    have h1 := sgn_le (j := k) (mul_le3 (hb 0 k) (hd k) (dB_nonneg n))
    have e : ((k + 1 : Nat) : Int) * (3 * dB n) = (k : Int) * (3 * dB n) + 3 * dB n := by rw [Int.natCast_succ, Int.add_mul, Int.one_mul]
    rw [e]
    omega
theorem detF_bd (n : Nat) : ∀ m, Bd m → -(dB n) ≤ detF n m ∧ detF n m ≤ dB n := by
  induction n with
  | zero => intro m _; show -(1 : Int) ≤ 1 ∧ (1 : Int) ≤ 1; decide
  | succ n ih =>
    intro m hb
    rw [← detS_end]
    exact detS_bd hb (fun j => ih _ (wdM_bd hb _ _ _)) (n + 1)
theorem dB_small (n : Nat) (h : n ≤ 4) : dB n ≤ 1944 := by
  rcases (show n = 0 ∨ n = 1 ∨ n = 2 ∨ n = 3 ∨ n = 4 by omega) with rfl | rfl | rfl | rfl | rfl <;> decide

/-! ### The calls -/
theorem wdM_pred (m : List (List Int)) (N col kk : Nat) (h : 1 ≤ kk) : wdM m N col (kk - 1) ++ [wdR m col kk N] = wdM m N col kk := by
  obtain ⟨k, rfl⟩ : ∃ k, kk = k + 1 := ⟨kk - 1, by omega⟩
  exact wdM_step m N col k
theorem keepS {wq w2 : World} {p q : Addr} {c d : Value} (hp : p.block < wq.heap.size) (hq : q.block < wq.heap.size) (h1 : wq.cell? p = some c) (h2 : wq.cell? q = some d) (h : Below wq.heap.size wq w2) :
    Below wq.heap.size wq w2 ∧ w2.cell? p = some c ∧ w2.cell? q = some d := ⟨h, (h.cell hp).trans h1, (h.cell hq).trans h2⟩
theorem detF_ret {a b : Int} {w w' : World} {C : Nat} (h : a = b) (hb : Below C w w') : Ending.returned (.int .i64 a) = .returned (.int .i64 b) ∧ Below C w w' := ⟨by rw [h], hb⟩

end Go.Proofs.YtgpcacgafbhhdaaDoor
namespace Go.Proofs.YtgpcacgafbhhdaaDoor
open Go.RowKit

theorem fullM_get (f : Nat → Nat → Int) (n i : Nat) (h : i < n) : (fullF f n).getD i [] = rowF f n i := by simp [fullF, List.getD, h]
theorem fullM_entry (f : Nat → Nat → Int) (n i j : Nat) (hi : i < n) (hj : j < n) : entry (fullF f n) i j = f i j := by
  unfold entry
  rw [fullM_get f n i hi]
  simp [rowF, List.getD, hj]
/-! ### Sets by masks -/
def setK (mask k : Nat) : List Nat := (List.range k).filter fun i => mask.testBit i
def setsL (n k : Nat) : List (List Nat) := (List.range k).map fun t => setK (t + 1) n
theorem setK_yes {mask k : Nat} (h : mask.testBit k = true) : setK mask k ++ [k] = setK mask (k + 1) := by
  unfold setK
  rw [List.range_succ, List.filter_append, List.filter_cons_of_pos h]; rfl
theorem setK_no {mask k : Nat} (h : mask.testBit k = false) : setK mask k = setK mask (k + 1) := by
  unfold setK
  rw [List.range_succ, List.filter_append, List.filter_cons_of_neg (by rw [h]; simp)]; simp
theorem setK_len (mask k : Nat) : (setK mask k).length ≤ k := by
  unfold setK
  exact Nat.le_trans (List.length_filter_le _ _) (by rw [List.length_range]; exact Nat.le_refl _)
theorem setsL_len (n k : Nat) : (setsL n k).length = k := by simp [setsL]
theorem setsL_step (n k : Nat) : setsL n k ++ [setK (k + 1) n] = setsL n (k + 1) := by
  unfold setsL
  rw [List.range_succ, List.map_append]; rfl
theorem setsL_get (n k t : Nat) (h : t < k) : (setsL n k).getD t [] = setK (t + 1) n := by simp [setsL, List.getD, h]
def SetsOk (n : Nat) : Prop := ∀ t, t < 2 ^ n - 1 → (setK (t + 1) n).length ≠ 0 ∧ ∀ k, k < (setK (t + 1) n).length → (setK (t + 1) n).getD k 0 < n ∧ (0 < k → (setK (t + 1) n).getD (k - 1) 0 < (setK (t + 1) n).getD k 0)
instance (n : Nat) : Decidable (SetsOk n) := by unfold SetsOk; infer_instance
theorem sets_ok (n : Nat) (h : n ≤ 4) : SetsOk n := by
  rcases (show n = 0 ∨ n = 1 ∨ n = 2 ∨ n = 3 ∨ n = 4 by omega) with rfl | rfl | rfl | rfl | rfl <;> decide +kernel
theorem set_is {n : Nat} (h : n ≤ 4) {t : Nat} (ht : t < 2 ^ n - 1) : IsSet n (intL (setK (t + 1) n)) ∧ intL (setK (t + 1) n) ≠ [] := by
  obtain ⟨h0, h1⟩ := sets_ok n h t ht
  refine ⟨fun k hk => ?_, fun e => h0 (by have := congrArg List.length e; rw [intL_len] at this; exact this)⟩
  rw [intL_len] at hk
  obtain ⟨h2, h3⟩ := h1 k hk
  refine ⟨by rw [intL_get _ _ hk]; omega, fun ⟨h4, h5⟩ => ?_⟩
  rw [intL_get _ _ hk, intL_get _ _ (by omega)] at h5
  have := h3 h4
  omega
theorem set_sub {m : List (List Int)} (hI : IsC m) {t : Nat} (ht : t < 2 ^ m.length - 1) : SubOk m (intL (setK (t + 1) m.length)) :=
  ⟨hI, (set_is hI.2.2.2 ht).2, (set_is hI.2.2.2 ht).1⟩

/-! ### Minors -/
theorem pick_len (m : List (List Int)) (l : List Int) : (pick m l).length = l.length := fullF_len _ _
theorem pick_rows (m : List (List Int)) (l : List Int) : Rows0 (pick m l) l.length l.length := fun i hi => by
  unfold pick
  rw [fullM_get _ _ _ hi, rowF_len]
theorem pick_bd {m : List (List Int)} (hb : Bd m) (l : List Int) : Bd (pick m l) := fun i j => by
  unfold pick
  by_cases hi : i < l.length
  · by_cases hj : j < l.length
    · rw [fullM_entry _ _ _ _ hi hj]; exact hb _ _
    · have : entry (fullF (ptsF m l) l.length) i j = 0 := by
        unfold entry
        rw [fullM_get _ _ _ hi, List.getD_eq_getElem?_getD, List.getElem?_eq_none (by rw [rowF_len]; omega)]; rfl
      rw [this]; decide
  · have : entry (fullF (ptsF m l) l.length) i j = 0 := by
      unfold entry
      have e : (fullF (ptsF m l) l.length).getD i [] = [] := by rw [List.getD_eq_getElem?_getD, List.getElem?_eq_none (by rw [fullF_len]; omega)]; rfl
      rw [e]; simp
    rw [this]; decide
/-- The minor of the set with number t + 1. -/
def minP (m : List (List Int)) (t : Nat) : Int := detF (setK (t + 1) m.length).length (pick m (intL (setK (t + 1) m.length)))
def minK (m : List (List Int)) (k : Nat) : List Int := (List.range k).map (minP m)
theorem minK_step (m : List (List Int)) (k : Nat) : minK m k ++ [minP m k] = minK m (k + 1) := by
  unfold minK
  rw [List.range_succ, List.map_append]; rfl
theorem minK_len (m : List (List Int)) (k : Nat) : (minK m k).length = k := by simp [minK]
open Classical in
noncomputable def minV (m : List (List Int)) : List Int := if IsC m then minK m (2 ^ m.length - 1) else []
theorem minV_yes {m : List (List Int)} (h : IsC m) : minV m = minK m (2 ^ m.length - 1) := if_pos h
theorem minV_no {m : List (List Int)} (h : ¬ IsC m) : minV m = [] := if_neg h
theorem two_pow_le (n : Nat) (h : n ≤ 4) : 2 ^ n - 1 ≤ 15 := by
  rcases (show n = 0 ∨ n = 1 ∨ n = 2 ∨ n = 3 ∨ n = 4 by omega) with rfl | rfl | rfl | rfl | rfl <;> decide
theorem minV_len (m : List (List Int)) : (minV m).length ≤ 15 := by
  by_cases h : IsC m
  · rw [minV_yes h, minK_len]; exact two_pow_le _ h.2.2.2
  · rw [minV_no h]; simp
open Classical in
noncomputable def detV (m : List (List Int)) : Int := if IsC m then detF m.length m else 0
theorem detV_yes {m : List (List Int)} (h : IsC m) : detV m = detF m.length m := if_pos h
theorem detV_no {m : List (List Int)} (h : ¬ IsC m) : detV m = 0 := if_neg h

/-! ### The witness -/
/-- The first t below k whose minor is not positive, if there is one. -/
def witT (m : List (List Int)) (k : Nat) : Option Nat := (List.range k).find? fun t => decide (minP m t ≤ 0)
theorem witT_step_no {m : List (List Int)} {k : Nat} (h : witT m k = none) (hk : ¬ minP m k ≤ 0) : witT m (k + 1) = none := by
  unfold witT at h ⊢
  rw [List.range_succ, List.find?_append, h]
  simp [hk]
theorem witT_hit {m : List (List Int)} {k : Nat} (h : witT m k = none) (hk : minP m k ≤ 0) (N : Nat) (hN : k < N) : witT m N = some k := by
  have h1 : witT m (k + 1) = some k := by
    unfold witT at h ⊢
    rw [List.range_succ, List.find?_append, h]
    simp [hk]
  have e : List.range N = List.range (k + 1) ++ (List.range N).drop (k + 1) := by
    have h2 : (List.range N).take (k + 1) = List.range (k + 1) := by rw [List.take_range]; congr 1; omega
    rw [← h2, List.take_append_drop]
  unfold witT at h1 ⊢
  rw [e, List.find?_append, h1]; rfl
open Classical in
noncomputable def witV (m : List (List Int)) : List Int := if IsC m then (match witT m (2 ^ m.length - 1) with | none => [] | some t => intL (setK (t + 1) m.length)) else []
theorem witV_hit {m : List (List Int)} (h : IsC m) {t : Nat} (ht : witT m (2 ^ m.length - 1) = some t) : witV m = intL (setK (t + 1) m.length) := by unfold witV; rw [if_pos h, ht]
theorem witV_none {m : List (List Int)} (h : IsC m) (ht : witT m (2 ^ m.length - 1) = none) : witV m = [] := by unfold witV; rw [if_pos h, ht]
theorem witV_no {m : List (List Int)} (h : ¬ IsC m) : witV m = [] := if_neg h
theorem witV_len (m : List (List Int)) : (witV m).length ≤ 4 := by
  by_cases h : IsC m
  · cases ht : witT m (2 ^ m.length - 1) with
    | none => rw [witV_none h ht]; simp
    | some t =>
      rw [witV_hit h ht, intL_len]
      exact Nat.le_trans (setK_len _ _) h.2.2.2
  · rw [witV_no h]; simp
end Go.Proofs.YtgpcacgafbhhdaaDoor
namespace Go.Proofs.YtgpcacgafbhhdaaDoor
open Go.RowKit

theorem MatI.rowI4 {A B : Nat} {w : World} {a : Option Addr} {n cap : Nat} {m : List (List Int)} (h : MatI A B w (.slice a n cap) m) {j : Nat} (hj : j < m.length) :
    ∃ b hv, a = some ⟨b, 0, none⟩ ∧ w.cell? ⟨b, j, none⟩ = some hv ∧ RowI A B w hv (m.getD j []) := by
  obtain ⟨hs, h1, h2, h3, _⟩ := h
  obtain ⟨hv, h4, h5⟩ := h3 j hj
  rcases h1.2 with ⟨_, he⟩ | ⟨g, cap', cur, hval, _⟩
  · omega
  · have ha : a = some ⟨g, 0, none⟩ := by injection hval
    have hn : n = m.length := by injection hval
    subst ha
    subst hn
    exact ⟨g, hv, rfl, by rw [h1.cellAt j (by omega)]; exact h4, by rw [getD_row m j hj]; exact h5⟩

theorem sameIn_grown4 {A B : Nat} {w w' : World} {S : Option Nat} (hg : w.grownBy w' S) (hB : B ≤ w.heap.size) (hS : ∀ g, S = some g → g < A ∨ B ≤ g) : SameIn A B w w' := fun k h1 h2 =>
  hg.block k (by omega) (fun e => by have := hS k e.symm; omega)
theorem bit_test : ∀ t : Nat, t < 16 → ∀ c : Nat, c < 4 → ((bits BinOp.and IntKind.i64 ((t : Int) / 2 ^ c) 1) == 1) = t.testBit c := by decide +kernel
theorem sets_pred (n t : Nat) (h : 1 ≤ t) : (setsL n (t - 1)).map intL ++ [intL (setK t n)] = (setsL n t).map intL := by
  obtain ⟨k, rfl⟩ : ∃ k, t = k + 1 := ⟨t - 1, by omega⟩
  rw [← setsL_step n k, List.map_append]; rfl
def tabS (n : Nat) : List (List Int) := (setsL n (2 ^ n - 1)).map intL
/-! ### append(row, x) where the row may be empty -/
set_option maxRecDepth 100000 in
theorem append_intL {ops : Array Oper} {rest : List Oper} {o : Oper} {a : Act} {Q : Exit → Act → World → Prop} {s x : Operand} {A q : Nat} {v : Value} {l : List Int} {wr : World}
    (hM : RowI A wr.heap.size wr v l) (hA : A ≤ wr.heap.size) (hq : q = wr.heap.size) (n : Int) (hgd : o.guard = none)
    (ho : o.op = .call { callee := .builtin .append, args := #[s, x], argTypes := #[31, 31] }) (hs : a.eval s = v)
    (hx : a.eval x = .slice (some ⟨q, 0, none⟩) 1 1) (hlen : l.length ≤ 4194304)
    (h : ∀ v' w', RowI A w'.heap.size w' v' (l ++ [n]) → wr.grownBy w' v.ownBlock → (∀ g, v'.ownBlock = some g → v.ownBlock = some g ∨ wr.heap.size ≤ g) → wpList Tryd.prog ops Q rest (a.put o.dst v') w') :
    wpList Tryd.prog ops Q (o :: rest) a (wr.alloc (.cells #[.int .i64 n] 3)) := by
  subst hq
  obtain ⟨h1, h2⟩ := hM
  obtain ⟨i0, hi, hz0, hz1, hz2⟩ := info_parts Tryd.infoInt
  have h1a := h1.alloc (.cells #[.int .i64 n] 3)
  have hnew : ∀ j u, [Value.int .i64 n][j]? = some u → (wr.alloc (.cells #[.int .i64 n] 3)).cell? ((⟨wr.heap.size, 0, none⟩ : Addr).add j) = some u := by
    intro j u hu
    match j, hu with
    | 0, hu =>
      simp at hu
      subst hu
      rw [Addr.add_lit, cell_of_row _ wr.heap.size 0 _ _ _ (MapKept.heap_alloc wr _).1]
      rfl
    | j + 1, hu => simp at hu
  have hone : ∀ u ∈ [Value.int .i64 n], u.oneCell' = true := by
    intro u hu
    simp at hu
    subst hu
    rfl
  have hlv : (intsV l).length = l.length := intsV_len l
  obtain ⟨v', w', hr, h3, h4, _⟩ := run_append_own (P := Tryd.prog) (wr.alloc (.cells #[.int .i64 n] 3)) A 31 o.type 3 i0 (.int .i64 0) 1 8 Tryd.underlying31 hi hz0 hz1 hz2 rfl (by omega) v l.length (intsV l) h1a ⟨wr.heap.size, 0, none⟩ 1 1 [.int .i64 n] rfl hnew hone (by unfold maxLen; omega) (by omega) (by simp; omega)
  have hloc : ∀ g, v'.ownBlock = some g → v.ownBlock = some g ∨ wr.heap.size ≤ g := by
    rcases h1.2 with ⟨rfl, he⟩ | ⟨g, cap, cur, rfl, hAg, hg, hn, hc, hsz, ht⟩
    · have hr2 := run_append_nil (P := Tryd.prog) (wr.alloc (.cells #[.int .i64 n] 3)) 31 o.type 3 i0 (.int .i64 0) Tryd.underlying31 hi hz0 ⟨wr.heap.size, 0, none⟩ 1 1 [.int .i64 n] (by rw [hz1]; rfl) hnew (by omega) (by omega) (by rw [hz2]; omega)
      rw [hr] at hr2
      injection hr2 with e1 e2
      subst e1
      intro g' hg'
      right
      have : (wr.alloc (.cells #[.int .i64 n] 3)).heap.size = g' := by simpa [Value.ownBlock] using hg'
      simp at this
      omega
    · have hga : (wr.alloc (.cells #[.int .i64 n] 3)).heap[g]? = some (.cells cur 3 (0, 0)) := by
        rw [(MapKept.heap_alloc wr _).2 g (Array.getElem?_eq_some_iff.1 hg).1]; exact hg
      by_cases hroom : l.length + 1 ≤ cap
      · have hr2 := run_append_room (P := Tryd.prog) (wr.alloc (.cells #[.int .i64 n] 3)) 31 o.type 3 i0 Tryd.underlying31 hi g l.length cap cur hga ⟨wr.heap.size, 0, none⟩ 1 1 [.int .i64 n] (by rw [hz1]; rfl) hnew hone hroom (by rw [hz1]; simp; omega)
        rw [hr] at hr2
        injection hr2 with e1 e2
        subst e1
        intro g' hg'
        exact Or.inl hg'
      · have hr2 := run_append_grow (P := Tryd.prog) (wr.alloc (.cells #[.int .i64 n] 3)) 31 o.type 3 i0 (.int .i64 0) Tryd.underlying31 hi hz0 ⟨g, 0, none⟩ l.length cap (intsV l) (by rw [hz1, hlv]; omega) (h1a.cells (g := g) rfl) ⟨wr.heap.size, 0, none⟩ 1 1 [.int .i64 n] (by rw [hz1]; rfl) hnew (by omega) (by omega) (growslice_fits (by omega) (by rw [hz2]; omega))
        rw [hr] at hr2
        injection hr2 with e1 e2
        subst e1
        intro g' hg'
        right
        have : (wr.alloc (.cells #[.int .i64 n] 3)).heap.size = g' := by simpa [Value.ownBlock] using hg'
        simp at this
        omega
  refine Lib.wpList_append_run _ hgd s x 31 31 ho _ _ hs hx v' w' hr ?_
  refine h v' w' ⟨?_, fun g hgg => (h3.lt g hgg).2⟩ ⟨h4.os, h4.tape, h4.output, by have := h4.size; simp at this; omega, fun k hk hn => ?_⟩ hloc
  · have e : intsV l ++ [.int .i64 n] = intsV (l ++ [n]) := by simp [intsV]
    rw [e] at h3
    rw [List.length_append]
    exact h3
  · rw [h4.block k (by simp; omega) hn]
    exact (MapKept.heap_alloc wr _).2 k hk

/-! ### Minors -/
/-- One set of the table: the matrix of its points and its minor. -/
theorem minor_ok {m : List (List Int)} (hI : IsC m) {t : Nat} (ht : t < 2 ^ m.length - 1) :
    subM m (intL (setK (t + 1) m.length)) = pick m (intL (setK (t + 1) m.length)) ∧ subB m (intL (setK (t + 1) m.length)) = true ∧ (setK (t + 1) m.length).length ≤ 4 ∧
      (pick m (intL (setK (t + 1) m.length))).length = (setK (t + 1) m.length).length ∧ Rows0 (pick m (intL (setK (t + 1) m.length))) (setK (t + 1) m.length).length (setK (t + 1) m.length).length ∧ Bd (pick m (intL (setK (t + 1) m.length))) := by
  have hs := set_sub hI ht
  have h4 := hI.2.2.2
  have hr := pick_rows m (intL (setK (t + 1) m.length))
  rw [intL_len] at hr
  exact ⟨subM_yes hs, subB_yes hs, Nat.le_trans (setK_len _ _) h4, by rw [pick_len, intL_len], hr, pick_bd (isC_bd hI) _⟩

end Go.Proofs.YtgpcacgafbhhdaaDoor
namespace Go.Proofs.YtgpcacgafbhhdaaDoor
open Go.RowKit

/-! ### IsFinite -/
open Classical in
noncomputable def finB (m : List (List Int)) : Bool := decide (IsC m ∧ (witV m).length = 0)
open Classical in
theorem finB_yes {m : List (List Int)} (h : IsC m) : finB m = decide ((witV m).length = 0) := by
  unfold finB
  rw [decide_eq_decide]
  exact ⟨fun h => h.2, fun h' => ⟨h, h'⟩⟩
open Classical in
theorem finB_no {m : List (List Int)} (h : ¬ IsC m) : finB m = false := decide_eq_false (fun hh => h hh.1)
theorem len_int0 (L : Nat) : ((L : Int) == 0) = decide (L = 0) := by
  by_cases h : L = 0
  · subst h; rfl
  · rw [decide_eq_false h, beq_eq_false_iff_ne]; omega

end Go.Proofs.YtgpcacgafbhhdaaDoor
namespace Go.Proofs.YtgpcacgafbhhdaaDoor
open Go.RowKit

def namesL : List (List UInt8) := [[65, 49], [65, 50], [65, 51], [65, 52], [66, 50], [66, 51], [66, 52], [67, 51], [67, 52], [68, 52], [70, 52], [71, 50], [65, 49, 126], [65, 50, 126], [65, 51, 126], [67, 50, 126], [71, 50, 126]]
def strV (l : List UInt8) : Value := .string ⟨l.toArray⟩
def namesV : Array Value := (namesL.map strV).toArray
theorem namesV_get : ∀ t, t < 17 → namesV[t]? = some (strV (namesL.getD t [])) := by
  intro t ht
  simp [namesV, List.getD, show t < namesL.length from ht]
theorem typeP_small (l : List UInt8) : szSum (typeM l) ≤ 1048576 := by
  by_cases h : Fresh shTab l
  · unfold typeM; rw [typeAt_fresh h]; decide
  · have : ∃ p ∈ shTab, p.1 = l := Classical.byContradiction fun hn => h fun p hp e => hn ⟨p, hp, e⟩
    obtain ⟨p, hp, rfl⟩ := this
    obtain ⟨i, hi, rfl⟩ := List.getElem_of_mem hp
    unfold typeM
    rw [(sh_facts i hi).2.2.2.2]
    exact (show ∀ i (h : i < shTab.length), szSum (appC (chainL shTab[i].2.1) shTab[i].2.2) ≤ 1048576 by decide) i hi
theorem nms_any (w : World) : Calls Tryd.prog 16 #[] w fun e w' => e = .returned (.slice (some ⟨w.heap.size, 0, none⟩) 17 17) ∧ w' = w.alloc (.cells namesV 9) := by
  go_enter Tryd.func16, Tryd.ntmps16
  go_wp2_with fail
  go_ret
  exact ⟨rfl, rfl⟩
noncomputable def nameT (m : List (List Int)) (k : Nat) : Option Nat := (List.range k).find? fun t => isoB m (typeM (namesL.getD t []))
theorem nameT_no {m : List (List Int)} {k : Nat} (h : nameT m k = none) (hk : isoB m (typeM (namesL.getD k [])) = false) : nameT m (k + 1) = none := by
  unfold nameT at h ⊢
  rw [List.range_succ, List.find?_append, h]
  simp [hk, ← List.getD_eq_getElem?_getD]
theorem nameT_hit {m : List (List Int)} {k : Nat} (h : nameT m k = none) (hk : isoB m (typeM (namesL.getD k [])) = true) (N : Nat) (hN : k < N) : nameT m N = some k := by
  have h1 : nameT m (k + 1) = some k := by
    unfold nameT at h ⊢
    rw [List.range_succ, List.find?_append, h]
    simp [hk, ← List.getD_eq_getElem?_getD]
  have e : List.range N = List.range (k + 1) ++ (List.range N).drop (k + 1) := by
    have h2 : (List.range N).take (k + 1) = List.range (k + 1) := by rw [List.take_range]; congr 1; omega
    rw [← h2, List.take_append_drop]
  unfold nameT at h1 ⊢
  rw [e, List.find?_append, h1]; rfl
noncomputable def nameP (m : List (List Int)) : List UInt8 := match nameT m 17 with
  | some t => namesL.getD t []
  | none => if connB (partsV m).length then [63] else []
theorem nameP_hit {m : List (List Int)} {t : Nat} (h : nameT m 17 = some t) : nameP m = namesL.getD t [] := by unfold nameP; rw [h]
theorem nameP_no {m : List (List Int)} (h : nameT m 17 = none) : nameP m = if connB (partsV m).length then [63] else [] := by unfold nameP; rw [h]

set_option maxHeartbeats 2000000 in
set_option maxRecDepth 100000 in
theorem nmp_any (B : Nat) (v : Value) (m : List (List Int)) (w : World) (h : MatB B w v m) (hB : B ≤ w.heap.size) (hf : RowsFit m) :
    Calls Tryd.prog 7 #[v] w fun e w' => e = .returned (strV (nameP m)) ∧ Below w.heap.size w w' := by
  have hb0 : Below w.heap.size w (w.alloc (.cells namesV 9)) := (Below.refl _ _).alloc (Nat.le_refl _) _
  have HB0 := Lib.hid hb0
  have hcell : ∀ t, t < 17 → (w.alloc (.cells namesV 9)).cell? ⟨w.heap.size, t, none⟩ = some (strV (namesL.getD t [])) := fun t ht => by
    rw [cell_of_row _ w.heap.size t _ _ _ (MapKept.heap_alloc w _).1]; exact namesV_get t ht
  have hsz0 : w.heap.size < (w.alloc (.cells namesV 9)).heap.size := by simp
  have HCELL := Lib.hid hcell
  have HCO := Lib.hid (fun w1 (hb : Below w.heap.size w w1) => cons_any B v m w1 (h.below hb hB) (Nat.le_trans hB hb.size) hf)
  have HAI := Lib.hid (fun (B' : Nat) (v' : Value) (m' : List (List Int)) (w1 : World) (hb : Below w.heap.size w w1) (h' : MatB B' w1 v' m') (hB' : B' ≤ w1.heap.size) (hf' : RowsFit m') => ais_any B B' v v' m m' w1 (h.below hb hB) h' (Nat.le_trans hB hb.size) hB' hf hf')
  have HHIT := Lib.hid (fun t (h : nameT m 17 = some t) => nameP_hit h)
  have HNO := Lib.hid (fun (h : nameT m 17 = none) => nameP_no h)
  clear h hcell hb0
  generalize nameP m = R at *
  generalize hw1 : w.alloc (.cells namesV 9) = w1 at *
  have HW1 := Lib.hid hw1
  have HNM := Lib.hid (nms_any w)
  clear hw1
  go_enter Tryd.func7, Tryd.ntmps7
  go_wp2_with fail
  refine HNM.out.mono ?_
  rintro e w' ⟨rfl, hw'⟩
  rw [HW1.out] at hw'
  subst hw'
  go_wp2_with fail
  go_loopw [4] (fun i wr => ∃ (t : Nat) (wq : World), wq = wr ∧ t ≤ 17 ∧ i = .int .i64 t ∧ Hid (nameT m t = none) ∧ Below w'.heap.size w' wq) (fun i _ => 17 - (intOf i).toNat)
  case atStart => exact ⟨0, _, rfl, Nat.zero_le _, rfl, Lib.hid rfl, Below.refl _ _⟩
  case round =>
    obtain ⟨t, wq, rfl, ht, rfl, hse, hbq⟩ := hrel
    have HBQ := Lib.hid hbq
    have hsq := hbq.size
    clear hbq
    have HBw := Lib.hid (HB0.out.trans (HBQ.out.mono (by omega)))
    by_cases hlt : t < 17
    · have hlt' : decide (t < 17) = true := decide_eq_true hlt
      have hc := (HBQ.out.cell (p := ⟨w.heap.size, t, none⟩) hsz0).trans (HCELL.out t hlt)
      have HTY := Lib.hid (fun w2 => tys_any ⟨(namesL.getD t []).toArray⟩ w2)
      have HSM := Lib.hid (fit_of_small (small_of (typeP_small (namesL.getD t []))))
      have HYES := Lib.hid (fun (h : isoB m (typeM (namesL.getD t [])) = true) => HHIT.out t (nameT_hit hse.out h 17 hlt))
      have HNOT := Lib.hid (fun (h : isoB m (typeM (namesL.getD t [])) = false) => nameT_no hse.out h)
      have HC1 := Lib.hid (HCELL.out t hlt)
      simp only [List.toList_toArray] at HTY
      unfold strV at hc
      generalize namesL.getD t [] = nm at *
      go_wp2_with fail
      refine (HTY.out wq).mono ?_
      rintro e w4 ⟨y, rfl, hy, hb4⟩
      have HY := Lib.hid hy
      have HB4 := Lib.hid (HBQ.out.trans (hb4.mono hsq))
      have HBw4 := Lib.hid (HBw.out.trans (hb4.mono (by omega)))
      have hs4 := hb4.size
      clear hy hb4
      generalize typeB nm = tb at *
      go_wp2_with fail
      refine (HAI.out _ y (typeM nm) w4 HBw4.out HY.out.matB (Nat.le_refl _) HSM.out).mono ?_
      rintro e w5 ⟨z, rfl, hz, hb5⟩
      have HB5 := Lib.hid (HB4.out.trans (hb5.mono (by omega)))
      have HBw5 := Lib.hid (HBw4.out.trans (hb5.mono (by omega)))
      clear hz hb5
      by_cases hiso : isoB m (typeM nm) = true
      · have HQ := Lib.hid (HYES.out hiso)
        rw [hiso]
        clear hiso
        have hc5 := (HB5.out.cell (p := ⟨w.heap.size, t, none⟩) hsz0).trans HC1.out
        unfold strV at hc5
        go_wp2_with fail
        go_ret
        exact ⟨by rw [HQ.out]; rfl, HBw5.out⟩
      · have hiso' : isoB m (typeM nm) = false := by simpa using hiso
        have HST := Lib.hid (HNOT.out hiso')
        rw [hiso']
        clear hiso hiso'
        go_wp2_with fail
        exact ⟨⟨t + 1, _, rfl, by omega, by go_num, HST, HB5.out⟩, by simp [intOf]; omega⟩
    · obtain rfl : t = 17 := by omega
      have HQ := Lib.hid (HNO.out hse.out)
      go_wp2_with fail
      refine (HCO.out wq HBw.out).mono ?_
      rintro e w5 ⟨rfl, hb5⟩
      have HBw5 := Lib.hid (HBw.out.trans (hb5.mono HBw.out.size))
      clear hb5
      by_cases hc : connB (partsV m).length = true
      · rw [hc] at HQ ⊢
        clear hc
        go_wp2_with fail
        go_ret
        exact ⟨by rw [HQ.out]; rfl, HBw5.out⟩
      · have hc' : connB (partsV m).length = false := by simpa using hc
        rw [hc'] at HQ ⊢
        clear hc hc'
        go_wp2_with fail
        go_ret
        exact ⟨by rw [HQ.out]; rfl, HBw5.out⟩
end Go.Proofs.YtgpcacgafbhhdaaDoor
namespace Go.Proofs.YtgpcacgafbhhdaaDoor
open Go.ChangeShapes Go.WideShapes Go.ChangeAt Go.ChangeMaps Go.RowKit

/-! ### What a law leaves behind when its row lists one variable -/
theorem var_below {P : Program} {W W' : World} {n : String} {cs : Array Value} (h : W.var? P n = some cs) (hb : Below W.heap.size W W') : W'.var? P n = some cs := by
  unfold World.var? at h ⊢
  cases hg : P.globalNamed n with
  | none => rw [hg] at h; exact h
  | some g =>
    rw [hg] at h
    simp only [Option.bind_some] at h ⊢
    have hlt : g < W.heap.size := by
      cases hh : W.heap[g]? with
      | none => rw [hh] at h; cases h
      | some o => exact (Array.getElem?_eq_some_iff.1 hh).1
    rw [hb.block g hlt]; exact h
theorem law_post1 {H : Type} {enc : TypeId × Value → H} {P : Program} {f : Func} {s : ChangeSpec} {W W' : World} {args : Array Value} {ds gs : List (DataW H)} {before : List MemPlace} {tb : TypeId} {n : String} {g0 : Nat} {t0 : TypeId}
    (hl : laidOutB P = true) (hr : rowed P f.params.toList = true) (hv : s.vars = [n]) (hg0 : P.globalNamed n = some g0) (ht0 : (P.globals[g0]?).map (·.type) = some t0) (hr0 : rowed P [t0] = true)
    (hres : f.resultTypes = #[tb]) (htb : P.underlying tb = some .bool)
    (hW : DataW.Whole enc P f.params.toList s.vars false W args.toList ds gs before)
    (hfn : ∀ g, gs = [g] → s.fn H (ds ++ gs) = { results := [.lit (.bool true)], args := ds, vars := gs }) (hb : Below W.heap.size W W') :
    s.post enc P f false true false false W args (.bool true) W' := by
  have hlt : ∀ p ∈ before, p.block < W.heap.size := fun p hp => hW.lt p hp
  have hW0 := hW
  obtain ⟨p, q, hA, hV, rfl, hz, -⟩ := hW
  have hV0 := hV
  rw [hv] at hV0
  obtain ⟨g, t, cs, fuel, d, p1, rfl, h1, h2, h3, h4, rfl⟩ := trodVars_one hV0
  obtain rfl := Option.some.inj (hg0.symm.trans h1)
  obtain rfl := Option.some.inj (ht0.symm.trans h2)
  have hfn' := hfn d rfl
  have hrl : (Value.bool true).resultList f.resultTypes.size = [.bool true] := by rw [hres]; rfl
  have hR : ∀ (b : Nat) (sp : Nat → Bool) (hd : Bool), DataW.TrodAll enc P W' b sp hd f.resultTypes.toList ((Value.bool true).resultList f.resultTypes.size) (s.fn H (ds ++ [d])).results [] := by
    intro b sp hd
    rw [hrl, hres, hfn']
    exact trodAll_mk1 (shut_bool htb true)
  have hA' : ∀ sp : Nat → Bool, (∀ x ∈ p, sp x.block = true) → DataW.TrodAll enc P W' 0 sp true f.params.toList args.toList (s.fn H (ds ++ [d])).args p := by
    intro sp hs
    rw [hfn']
    exact stays_all hl hb sp hr (fun x hx => hlt x (by simp [hx])) hs hA
  simp only [rowed, List.all_cons, List.all_nil, Bool.and_true, Bool.and_eq_true, decide_eq_true_eq] at hr0
  have hV' : ∀ sp : Nat → Bool, (∀ x ∈ p1, sp x.block = true) → DataW.TrodVars enc P W' sp s.vars (s.fn H (ds ++ [d])).vars (MemPlace.row ⟨g0, 0, none⟩ cs.size ++ p1) := by
    intro sp hs
    rw [hfn', hv]
    have hst := WideElems.Trod_stays hl hr0.1 hr0.2 (v := .agg cs) (sp' := sp) ⟨fuel, h4⟩ (fun x hx => hb.same (hlt x (by simp [hx]))) hs
    obtain ⟨fuel', h5⟩ := hst
    exact trodVars_mk1 hg0 ht0 (var_below h3 hb) h5
  refine ⟨ds, [d], p ++ (MemPlace.row ⟨g0, 0, none⟩ cs.size ++ p1), [], p, MemPlace.row ⟨g0, 0, none⟩ cs.size ++ p1, hW0, hR _ _ _, hA' _ (fun x hx => by simpa using hlt x (by simp [hx])), hV' _ (fun x hx => by simpa using hlt x (by simp [hx])), World.keptBut_mono (fun x hx => ?_) (hb.frame (· ∈ p ++ (MemPlace.row ⟨g0, 0, none⟩ cs.size ++ p1))), fun h => by cases h⟩
  refine ⟨hx, ?_⟩
  rcases List.mem_append.1 hx with h | h
  · exact Or.inr (Or.inl h)
  · exact Or.inr (Or.inr h)

/-! ### What the listed variable holds -/
theorem cells_of_strs {H : Type} {enc : TypeId × Value → H} {P : Program} {w : World} {base : Nat} {sp : Nat → Bool} {held : Bool} {fuel : Nat} {t e : TypeId} {n : Nat} {cs : List Value} {zs : List (List UInt8)} {p : List MemPlace}
    (ht : P.underlying t = some (.array n e)) (he : P.underlying e = some .string) (hce : P.cellsOf e = 1) (hct : P.cellsOf t = n)
    (h : DataW.trod enc P w base sp held fuel t cs = some (.agg (zs.map fun z => .lit (.string z)), p)) : cs = zs.map fun z => Value.string ⟨z.toArray⟩ := by
  cases fuel with
  | zero => simp [DataW.trod] at h
  | succ fuel =>
    simp only [DataW.trod, ht, hce, hct, Nat.mul_one] at h
    split at h
    · rename_i hl
      obtain ⟨xs, hm, hx⟩ := Option.map_eq_some_iff.1 h
      have hxs : xs.map (·.1) = zs.map fun z => (DataW.lit (.string z) : DataW H) := by
        have := congrArg Prod.fst hx
        simpa using this
      have hxl : xs.length = n := by simpa using Lib.mapM_length hm
      have hzl : zs.length = n := by
        have := congrArg List.length hxs
        simp at this
        omega
      apply List.ext_getElem?
      intro i
      by_cases hi : i < n
      · obtain ⟨b, hb, hf⟩ := Lib.mapM_at hm i i (by simp [hi])
        obtain ⟨z, hc, rfl, _⟩ := DataW.trod_string he hf
        have h1 : cs[i]? = some (.string z) := by
          have := congrArg (·[0]?) hc
          simpa [List.getElem?_take, List.getElem?_drop] using this
        have h2 : (xs.map (·.1))[i]? = some (DataW.lit (.string z.data.toList) : DataW H) := by simp [hb]
        rw [hxs] at h2
        simp only [List.getElem?_map, Option.map_eq_some_iff, DataW.lit.injEq, Lit.string.injEq] at h2
        obtain ⟨z', hz', he'⟩ := h2
        have hz : z = ⟨z'.toArray⟩ := by rw [he']
        simp [h1, hz', hz]
      · rw [List.getElem?_eq_none (by omega), List.getElem?_eq_none (by simp; omega)]
    · cases h

abbrev namesLaid : List (String × DataW Unit) := Rows.fnExactNameOfPartRow.laid
theorem names_met (os : Os) (args : Array Value) : laidMetH Tryd.prog namesLaid ((World.doorLaid Tryd.prog 4000 os).forCall (fun _ _ => 0) ⟨#[], args, []⟩).memory :=
  laidMetH_of_parts3 (fuel := 8) (laidMet_of_run' 8 (by kernel_rfl) (by kernel_rfl)) (by kernel_rfl) (by kernel_rfl)
/-- The variable holds the names of the chapter. -/
def NamesIs (w : World) (ns : List (List UInt8)) : Prop := w.var? Tryd.prog "loop.example/g02076/impl.partNames" = some (ns.map fun z => Value.string ⟨z.toArray⟩).toArray
theorem names_of_laid {W : World} (h : laidMetH Tryd.prog namesLaid W) :
    NamesIs W [[65, 49], [65, 50], [65, 51], [65, 52], [66, 50], [66, 51], [66, 52], [67, 51], [67, 52], [68, 52], [70, 52], [71, 50], [65, 49, 126], [65, 50, 126], [65, 51, 126], [67, 50, 126], [71, 50, 126]] := by
  rw [MakeChecks.laidMetH_plain _ _ _ (by kernel_rfl)] at h
  obtain ⟨ps, ⟨g', t', cs, fuel, p, q, hg', ht', hvar, hd, _, _⟩, _⟩ := h
  have hg : Tryd.prog.globalNamed "loop.example/g02076/impl.partNames" = some 0 := by kernel_rfl
  have ht : (Tryd.prog.globals[0]?).map (·.type) = some 39 := by kernel_rfl
  obtain rfl := Option.some.inj (hg.symm.trans hg')
  obtain rfl := Option.some.inj (ht.symm.trans ht')
  unfold NamesIs
  rw [hvar, ← cells_of_strs (n := 17) (e := 9) (by kernel_rfl) (by kernel_rfl) (by kernel_rfl) (by kernel_rfl) hd]
theorem NamesIs.below {W W' : World} {ns : List (List UInt8)} (h : NamesIs W ns) (hb : Below W.heap.size W W') : NamesIs W' ns := var_below h hb
end Go.Proofs.YtgpcacgafbhhdaaDoor
namespace Go.Proofs.YtgpcacgafbhhdaaDoor
open Go.RowKit

theorem names_cell {w : World} (h : NamesIs w namesL) (t : Nat) (ht : t < 17) : w.cell? ⟨0, t, none⟩ = some (strV (namesL.getD t [])) := by
  have hg : Tryd.prog.globalNamed "loop.example/g02076/impl.partNames" = some 0 := by kernel_rfl
  have h1 := World.var?_cell hg h t
  have h2 := namesV_get t ht
  rw [h1]
  exact h2

set_option maxRecDepth 100000 in
theorem idx_names (arr : Array Value) (t : Nat) (ht : t < 17) (s : ByteArray) (h : arr[t]? = some (.string s)) (w : World) :
    (Instr.index 39 (.agg arr) (.int .i64 t)).run Tryd.prog w = .ok (.string s) w := by
  have hu : Tryd.prog.underlying 39 = some (.array 17 9) := by kernel_rfl
  have hs : ∀ w, (sizeOf 9).run Tryd.prog w = .ok 1 w := fun w => by rfl
  have h1 : (0 : Int) ≤ (t : Int) ∧ (t : Int) < 17 := by omega
  simp [Instr.index, run_underlying hu, asIntOf, h1, hs, part, go_sem, h]
  intro h2; omega
set_option maxHeartbeats 2000000 in
set_option maxRecDepth 100000 in
theorem nmpi_any (B : Nat) (v : Value) (m : List (List Int)) (w : World) (h : MatB B w v m) (hB : B ≤ w.heap.size) (hf : RowsFit m) (hN : NamesIs w namesL) :
    Calls Tryd.prog 9 #[v] w fun e w' => e = .returned (strV (nameP m)) ∧ Below w.heap.size w w' := by
  have HCELL := Lib.hid (fun (w1 : World) (hb : Below w.heap.size w w1) t ht => names_cell (NamesIs.below hN hb) t ht)
  have HCO := Lib.hid (fun w1 (hb : Below w.heap.size w w1) => coni_any B v m w1 (h.below hb hB) (Nat.le_trans hB hb.size) hf)
  have HAI := Lib.hid (fun (B' : Nat) (v' : Value) (m' : List (List Int)) (w1 : World) (hb : Below w.heap.size w w1) (h' : MatB B' w1 v' m') (hB' : B' ≤ w1.heap.size) (hf' : RowsFit m') => aii_any B B' v v' m m' w1 (h.below hb hB) h' (Nat.le_trans hB hb.size) hB' hf hf')
  have HHIT := Lib.hid (fun t (h : nameT m 17 = some t) => nameP_hit h)
  have HNO := Lib.hid (fun (h : nameT m 17 = none) => nameP_no h)
  have hc0 : w.cell? ⟨0, 0, none⟩ = some (.string ⟨#[65, 49]⟩) := names_cell hN 0 (by decide)
  have hc1 : w.cell? ⟨0, 1, none⟩ = some (.string ⟨#[65, 50]⟩) := names_cell hN 1 (by decide)
  have hc2 : w.cell? ⟨0, 2, none⟩ = some (.string ⟨#[65, 51]⟩) := names_cell hN 2 (by decide)
  have hc3 : w.cell? ⟨0, 3, none⟩ = some (.string ⟨#[65, 52]⟩) := names_cell hN 3 (by decide)
  have hc4 : w.cell? ⟨0, 4, none⟩ = some (.string ⟨#[66, 50]⟩) := names_cell hN 4 (by decide)
  have hc5 : w.cell? ⟨0, 5, none⟩ = some (.string ⟨#[66, 51]⟩) := names_cell hN 5 (by decide)
  have hc6 : w.cell? ⟨0, 6, none⟩ = some (.string ⟨#[66, 52]⟩) := names_cell hN 6 (by decide)
  have hc7 : w.cell? ⟨0, 7, none⟩ = some (.string ⟨#[67, 51]⟩) := names_cell hN 7 (by decide)
  have hc8 : w.cell? ⟨0, 8, none⟩ = some (.string ⟨#[67, 52]⟩) := names_cell hN 8 (by decide)
  have hc9 : w.cell? ⟨0, 9, none⟩ = some (.string ⟨#[68, 52]⟩) := names_cell hN 9 (by decide)
  have hc10 : w.cell? ⟨0, 10, none⟩ = some (.string ⟨#[70, 52]⟩) := names_cell hN 10 (by decide)
  have hc11 : w.cell? ⟨0, 11, none⟩ = some (.string ⟨#[71, 50]⟩) := names_cell hN 11 (by decide)
  have hc12 : w.cell? ⟨0, 12, none⟩ = some (.string ⟨#[65, 49, 126]⟩) := names_cell hN 12 (by decide)
  have hc13 : w.cell? ⟨0, 13, none⟩ = some (.string ⟨#[65, 50, 126]⟩) := names_cell hN 13 (by decide)
  have hc14 : w.cell? ⟨0, 14, none⟩ = some (.string ⟨#[65, 51, 126]⟩) := names_cell hN 14 (by decide)
  have hc15 : w.cell? ⟨0, 15, none⟩ = some (.string ⟨#[67, 50, 126]⟩) := names_cell hN 15 (by decide)
  have hc16 : w.cell? ⟨0, 16, none⟩ = some (.string ⟨#[71, 50, 126]⟩) := names_cell hN 16 (by decide)
  have hget : ∀ t, t < 17 → (#[Value.string ⟨#[65, 49]⟩, Value.string ⟨#[65, 50]⟩, Value.string ⟨#[65, 51]⟩, Value.string ⟨#[65, 52]⟩, Value.string ⟨#[66, 50]⟩, Value.string ⟨#[66, 51]⟩, Value.string ⟨#[66, 52]⟩, Value.string ⟨#[67, 51]⟩, Value.string ⟨#[67, 52]⟩, Value.string ⟨#[68, 52]⟩, Value.string ⟨#[70, 52]⟩, Value.string ⟨#[71, 50]⟩, Value.string ⟨#[65, 49, 126]⟩, Value.string ⟨#[65, 50, 126]⟩, Value.string ⟨#[65, 51, 126]⟩, Value.string ⟨#[67, 50, 126]⟩, Value.string ⟨#[71, 50, 126]⟩] : Array Value)[t]? = some (strV (namesL.getD t [])) := namesV_get
  clear h hN
  generalize nameP m = R at *
  go_enter Tryd.func9, Tryd.ntmps9
  go_wp2_with fail
  clear hc0 hc1 hc2 hc3 hc4 hc5 hc6 hc7 hc8 hc9 hc10 hc11 hc12 hc13 hc14 hc15 hc16
  generalize (#[Value.string ⟨#[65, 49]⟩, Value.string ⟨#[65, 50]⟩, Value.string ⟨#[65, 51]⟩, Value.string ⟨#[65, 52]⟩, Value.string ⟨#[66, 50]⟩, Value.string ⟨#[66, 51]⟩, Value.string ⟨#[66, 52]⟩, Value.string ⟨#[67, 51]⟩, Value.string ⟨#[67, 52]⟩, Value.string ⟨#[68, 52]⟩, Value.string ⟨#[70, 52]⟩, Value.string ⟨#[71, 50]⟩, Value.string ⟨#[65, 49, 126]⟩, Value.string ⟨#[65, 50, 126]⟩, Value.string ⟨#[65, 51, 126]⟩, Value.string ⟨#[67, 50, 126]⟩, Value.string ⟨#[71, 50, 126]⟩] : Array Value) = arr at *
  have HGET := Lib.hid hget; clear hget
  go_loopw [10] (fun i wr => ∃ (t : Nat) (wq : World), wq = wr ∧ t ≤ 17 ∧ i = .int .i64 t ∧ Hid (nameT m t = none) ∧ Below w.heap.size w wq) (fun i _ => 17 - (intOf i).toNat)
  case atStart => exact ⟨0, _, rfl, Nat.zero_le _, rfl, Lib.hid rfl, Below.refl _ _⟩
  case round =>
    obtain ⟨t, wq, rfl, ht, rfl, hse, hbq⟩ := hrel
    have HBQ := Lib.hid hbq
    have hsq := hbq.size
    clear hbq
    by_cases hlt : t < 17
    · have hlt' : decide (t < 17) = true := decide_eq_true hlt
      have hg := HGET.out t hlt
      have HTY := Lib.hid (fun w2 => tyi_any ⟨(namesL.getD t []).toArray⟩ w2)
      have HSM := Lib.hid (fit_of_small (small_of (typeP_small (namesL.getD t []))))
      have HYES := Lib.hid (fun (h : isoB m (typeM (namesL.getD t [])) = true) => HHIT.out t (nameT_hit hse.out h 17 hlt))
      have HNOT := Lib.hid (fun (h : isoB m (typeM (namesL.getD t [])) = false) => nameT_no hse.out h)
      simp only [List.toList_toArray] at HTY
      unfold strV at hg
      generalize namesL.getD t [] = nm at *
      have hix := idx_names arr t hlt _ hg wq
      go_wp2_with fail
      refine (HTY.out wq).mono ?_
      rintro e w4 ⟨y, rfl, hy, hb4⟩
      have HY := Lib.hid hy
      have HB4 := Lib.hid (HBQ.out.trans (hb4.mono hsq))
      have hs4 := hb4.size
      clear hy hb4
      generalize typeB nm = tb at *
      go_wp2_with fail
      refine (HAI.out _ y (typeM nm) w4 HB4.out HY.out.matB (Nat.le_refl _) HSM.out).mono ?_
      rintro e w5 ⟨z, rfl, hz, hb5⟩
      have HB5 := Lib.hid (HB4.out.trans (hb5.mono (by omega)))
      clear hz hb5
      by_cases hiso : isoB m (typeM nm) = true
      · have HQ := Lib.hid (HYES.out hiso)
        rw [hiso]
        clear hiso
        go_wp2_with fail
        go_ret
        exact ⟨by rw [HQ.out]; rfl, HB5.out⟩
      · have hiso' : isoB m (typeM nm) = false := by simpa using hiso
        have HST := Lib.hid (HNOT.out hiso')
        rw [hiso']
        clear hiso hiso'
        go_wp2_with fail
        exact ⟨⟨t + 1, _, rfl, by omega, by go_num, HST, HB5.out⟩, by simp [intOf]; omega⟩
    · obtain rfl : t = 17 := by omega
      have HQ := Lib.hid (HNO.out hse.out)
      go_wp2_with fail
      refine (HCO.out wq HBQ.out).mono ?_
      rintro e w5 ⟨rfl, hb5⟩
      have HB5 := Lib.hid (HBQ.out.trans (hb5.mono HBQ.out.size))
      clear hb5
      by_cases hc : connB (partsV m).length = true
      · rw [hc] at HQ ⊢
        clear hc
        go_wp2_with fail
        go_ret
        exact ⟨by rw [HQ.out]; rfl, HB5.out⟩
      · have hc' : connB (partsV m).length = false := by simpa using hc
        rw [hc'] at HQ ⊢
        clear hc hc'
        go_wp2_with fail
        go_ret
        exact ⟨by rw [HQ.out]; rfl, HB5.out⟩
end Go.Proofs.YtgpcacgafbhhdaaDoor
