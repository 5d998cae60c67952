/-
  All sets of points in the order of binary numbers, principal minors and the first set whose minor is not positive (no walk here).
  Orders of points: what they are, and the calls that ask whether a list is one.
  RelabelCartan of the model and of the program: what each call returns.
-/
import Derived.Test.YtcmnkhblnlmfpaaGreatDoorFC10
import Derived.Test.YtcmnkhblnlmfpaaGreatDoorFC12
namespace Go.Proofs.YtcmnkhblnlmfpaaGreatDoor
open Go.RowKit

theorem fullM_get (f : Nat → Nat → Int) (n i : Nat) (h : i < n) : (fullF f n).getD i [] = rowF f n i := by simp [fullF, List.getD, h]
theorem fullM_entry (f : Nat → Nat → Int) (n i j : Nat) (hi : i < n) (hj : j < n) : entry (fullF f n) i j = f i j := by
  unfold entry
  rw [fullM_get f n i hi]
  simp [rowF, List.getD, hj]
/-! ### Sets by masks -/
def setK (mask k : Nat) : List Nat := (List.range k).filter fun i => mask.testBit i
def setsL (n k : Nat) : List (List Nat) := (List.range k).map fun t => setK (t + 1) n
theorem setK_yes {mask k : Nat} (h : mask.testBit k = true) : setK mask k ++ [k] = setK mask (k + 1) := by
  unfold setK
  rw [List.range_succ, List.filter_append, List.filter_cons_of_pos h]; rfl
theorem setK_no {mask k : Nat} (h : mask.testBit k = false) : setK mask k = setK mask (k + 1) := by
  unfold setK
  rw [List.range_succ, List.filter_append, List.filter_cons_of_neg (by rw [h]; simp)]; simp
theorem setK_len (mask k : Nat) : (setK mask k).length ≤ k := by
  unfold setK
  exact Nat.le_trans (List.length_filter_le _ _) (by rw [List.length_range]; exact Nat.le_refl _)
theorem setsL_len (n k : Nat) : (setsL n k).length = k := by simp [setsL]
theorem setsL_step (n k : Nat) : setsL n k ++ [setK (k + 1) n] = setsL n (k + 1) := by
  unfold setsL
  rw [List.range_succ, List.map_append]; rfl
theorem setsL_get (n k t : Nat) (h : t < k) : (setsL n k).getD t [] = setK (t + 1) n := by simp [setsL, List.getD, h]
def SetsOk (n : Nat) : Prop := ∀ t, t < 2 ^ n - 1 → (setK (t + 1) n).length ≠ 0 ∧ ∀ k, k < (setK (t + 1) n).length → (setK (t + 1) n).getD k 0 < n ∧ (0 < k → (setK (t + 1) n).getD (k - 1) 0 < (setK (t + 1) n).getD k 0)
instance (n : Nat) : Decidable (SetsOk n) := by unfold SetsOk; infer_instance
theorem sets_ok (n : Nat) (h : n ≤ 4) : SetsOk n := by
  rcases (show n = 0 ∨ n = 1 ∨ n = 2 ∨ n = 3 ∨ n = 4 by omega) with rfl | rfl | rfl | rfl | rfl <;> decide +kernel
theorem set_is {n : Nat} (h : n ≤ 4) {t : Nat} (ht : t < 2 ^ n - 1) : IsSet n (intL (setK (t + 1) n)) ∧ intL (setK (t + 1) n) ≠ [] := by
  obtain ⟨h0, h1⟩ := sets_ok n h t ht
  refine ⟨fun k hk => ?_, fun e => h0 (by have := congrArg List.length e; rw [intL_len] at this; exact this)⟩
  rw [intL_len] at hk
  obtain ⟨h2, h3⟩ := h1 k hk
  refine ⟨by rw [intL_get _ _ hk]; omega, fun ⟨h4, h5⟩ => ?_⟩
  rw [intL_get _ _ hk, intL_get _ _ (by omega)] at h5
  have := h3 h4
  omega
theorem set_sub {m : List (List Int)} (hI : IsC m) {t : Nat} (ht : t < 2 ^ m.length - 1) : SubOk m (intL (setK (t + 1) m.length)) :=
  ⟨hI, (set_is hI.2.2.2 ht).2, (set_is hI.2.2.2 ht).1⟩

/-! ### Minors -/
theorem pick_len (m : List (List Int)) (l : List Int) : (pick m l).length = l.length := fullF_len _ _
theorem pick_rows (m : List (List Int)) (l : List Int) : Rows0 (pick m l) l.length l.length := fun i hi => by
  unfold pick
  rw [fullM_get _ _ _ hi, rowF_len]
theorem pick_bd {m : List (List Int)} (hb : Bd m) (l : List Int) : Bd (pick m l) := fun i j => by
  unfold pick
  by_cases hi : i < l.length
  · by_cases hj : j < l.length
    · rw [fullM_entry _ _ _ _ hi hj]; exact hb _ _
    · have : entry (fullF (ptsF m l) l.length) i j = 0 := by
        unfold entry
        rw [fullM_get _ _ _ hi, List.getD_eq_getElem?_getD, List.getElem?_eq_none (by rw [rowF_len]; omega)]; rfl
      rw [this]; decide
  · have : entry (fullF (ptsF m l) l.length) i j = 0 := by
      unfold entry
      have e : (fullF (ptsF m l) l.length).getD i [] = [] := by rw [List.getD_eq_getElem?_getD, List.getElem?_eq_none (by rw [fullF_len]; omega)]; rfl
      rw [e]; simp
    rw [this]; decide
/-- The minor of the set with number t + 1. -/
def minP (m : List (List Int)) (t : Nat) : Int := detF (setK (t + 1) m.length).length (pick m (intL (setK (t + 1) m.length)))
def minK (m : List (List Int)) (k : Nat) : List Int := (List.range k).map (minP m)
theorem minK_step (m : List (List Int)) (k : Nat) : minK m k ++ [minP m k] = minK m (k + 1) := by
  unfold minK
  rw [List.range_succ, List.map_append]; rfl
theorem minK_len (m : List (List Int)) (k : Nat) : (minK m k).length = k := by simp [minK]
open Classical in
noncomputable def minV (m : List (List Int)) : List Int := if IsC m then minK m (2 ^ m.length - 1) else []
theorem minV_yes {m : List (List Int)} (h : IsC m) : minV m = minK m (2 ^ m.length - 1) := if_pos h
theorem minV_no {m : List (List Int)} (h : ¬ IsC m) : minV m = [] := if_neg h
theorem two_pow_le (n : Nat) (h : n ≤ 4) : 2 ^ n - 1 ≤ 15 := by
  rcases (show n = 0 ∨ n = 1 ∨ n = 2 ∨ n = 3 ∨ n = 4 by omega) with rfl | rfl | rfl | rfl | rfl <;> decide
theorem minV_len (m : List (List Int)) : (minV m).length ≤ 15 := by
  by_cases h : IsC m
  · rw [minV_yes h, minK_len]; exact two_pow_le _ h.2.2.2
  · rw [minV_no h]; simp
open Classical in
noncomputable def detV (m : List (List Int)) : Int := if IsC m then detF m.length m else 0
theorem detV_yes {m : List (List Int)} (h : IsC m) : detV m = detF m.length m := if_pos h
theorem detV_no {m : List (List Int)} (h : ¬ IsC m) : detV m = 0 := if_neg h

/-! ### The witness -/
/-- The first t below k whose minor is not positive, if there is one. -/
def witT (m : List (List Int)) (k : Nat) : Option Nat := (List.range k).find? fun t => decide (minP m t ≤ 0)
theorem witT_step_no {m : List (List Int)} {k : Nat} (h : witT m k = none) (hk : ¬ minP m k ≤ 0) : witT m (k + 1) = none := by
  unfold witT at h ⊢
  rw [List.range_succ, List.find?_append, h]
  simp [hk]
theorem witT_hit {m : List (List Int)} {k : Nat} (h : witT m k = none) (hk : minP m k ≤ 0) (N : Nat) (hN : k < N) : witT m N = some k := by
  have h1 : witT m (k + 1) = some k := by
    unfold witT at h ⊢
    rw [List.range_succ, List.find?_append, h]
    simp [hk]
  have e : List.range N = List.range (k + 1) ++ (List.range N).drop (k + 1) := by
    have h2 : (List.range N).take (k + 1) = List.range (k + 1) := by rw [List.take_range]; congr 1; omega
    rw [← h2, List.take_append_drop]
  unfold witT at h1 ⊢
  rw [e, List.find?_append, h1]; rfl
open Classical in
noncomputable def witV (m : List (List Int)) : List Int := if IsC m then (match witT m (2 ^ m.length - 1) with | none => [] | some t => intL (setK (t + 1) m.length)) else []
theorem witV_hit {m : List (List Int)} (h : IsC m) {t : Nat} (ht : witT m (2 ^ m.length - 1) = some t) : witV m = intL (setK (t + 1) m.length) := by unfold witV; rw [if_pos h, ht]
theorem witV_none {m : List (List Int)} (h : IsC m) (ht : witT m (2 ^ m.length - 1) = none) : witV m = [] := by unfold witV; rw [if_pos h, ht]
theorem witV_no {m : List (List Int)} (h : ¬ IsC m) : witV m = [] := if_neg h
theorem witV_len (m : List (List Int)) : (witV m).length ≤ 4 := by
  by_cases h : IsC m
  · cases ht : witT m (2 ^ m.length - 1) with
    | none => rw [witV_none h ht]; simp
    | some t =>
      rw [witV_hit h ht, intL_len]
      exact Nat.le_trans (setK_len _ _) h.2.2.2
  · rw [witV_no h]; simp
end Go.Proofs.YtcmnkhblnlmfpaaGreatDoor
namespace Go.Proofs.YtcmnkhblnlmfpaaGreatDoor
open Go.RowKit

def hasB (l : List Int) (x : Int) : Bool := decide (x ∈ l)
theorem hasB_yes {l : List Int} {x : Int} (h : x ∈ l) : hasB l x = true := decide_eq_true h
theorem hasB_no {l : List Int} {x : Int} (h : ¬ x ∈ l) : hasB l x = false := decide_eq_false h
theorem take_getD {l : List Int} {k : Nat} (hk : k < l.length) : l.take (k + 1) = l.take k ++ [l.getD k 0] := by
  rw [List.take_succ_eq_append_getElem hk]; simp [List.getD, hk]
theorem mem_getD {l : List Int} {k : Nat} (hk : k < l.length) : l.getD k 0 ∈ l := by
  have : l.getD k 0 = l[k] := by simp [List.getD, hk]
  rw [this]; exact List.getElem_mem hk
/-- An order, as the model asks for it. -/
def ordC (n : Nat) (l : List Int) (k : Nat) : Prop := (0 ≤ l.getD k 0 ∧ l.getD k 0 ≤ (n : Int) - 1) ∧ ¬ l.getD k 0 ∈ l.take k
def OrdTo (n : Nat) (l : List Int) (k : Nat) : Prop := ∀ i, i < k → ordC n l i
theorem ordTo_step {n k : Nat} {l : List Int} (h : OrdTo n l k) (hk : ordC n l k) : OrdTo n l (k + 1) := fun i hi => by
  rcases Nat.lt_or_ge i k with h' | h'
  · exact h i h'
  · obtain rfl : i = k := by omega
    exact hk
def IsOrd (n : Nat) (l : List Int) : Prop := l.length = n ∧ OrdTo n l l.length
theorem isOrd_pt {n : Nat} {l : List Int} (h : IsOrd n l) : AllPt n l := fun k hk => (h.2 k hk).1
/-- The same, as the program asks for it. -/
def HasAll (n : Nat) (l : List Int) : Prop := l.length = n ∧ ∀ j : Nat, j < n → (j : Int) ∈ l
theorem fin4 {a : Int} (h : 0 ≤ a ∧ a ≤ 3) : a = 0 ∨ a = 1 ∨ a = 2 ∨ a = 3 := by omega
theorem ord_all0 (l : List Int) (n : Nat) (hn : n ≤ 4) (h : IsOrd n l) : HasAll n l := by
  obtain ⟨h0, h⟩ := h
  refine ⟨h0, fun j hj => ?_⟩
  subst h0
  match l, hn, h, hj with
  | [], _, _, hj => simp at hj
  | [a], _, h, hj =>
    have h1 := h 0 (by simp)
    simp [ordC] at h1 hj ⊢
    omega
  | [a, b], _, h, hj =>
    have h1 := h 0 (by simp)
    have h2 := h 1 (by simp)
    simp [ordC] at h1 h2 hj ⊢
    omega
  | [a, b, c], _, h, hj =>
    have h1 := h 0 (by simp)
    have h2 := h 1 (by simp)
    have h3 := h 2 (by simp)
    simp [ordC] at h1 h2 h3 hj ⊢
    omega
  | [a, b, c, d], _, h, hj =>
    have h1 := h 0 (by simp)
    have h2 := h 1 (by simp)
    have h3 := h 2 (by simp)
    have h4 := h 3 (by simp)
    simp [ordC] at h1 h2 h3 h4 hj ⊢
    omega
  | a :: b :: c :: d :: e :: l, hn, _, _ => simp at hn
theorem ord_all1 (l : List Int) (n : Nat) (hn : n ≤ 4) (h : HasAll n l) : IsOrd n l := by
  obtain ⟨h0, h⟩ := h
  refine ⟨h0, fun k hk => ?_⟩
  subst h0
  match l, hn, h, hk with
  | [], _, _, hk => simp at hk
  | [a], _, h, hk =>
    have h1 := h 0 (by simp)
    simp at h1 hk
    subst hk
    simp [ordC]
    omega
  | [a, b], _, h, hk =>
    have h1 := h 0 (by simp)
    have h2 := h 1 (by simp)
    simp at h1 h2 hk
    rcases (show k = 0 ∨ k = 1 by omega) with rfl | rfl <;> simp [ordC] <;> omega
  | [a, b, c], _, h, hk =>
    have h1 := h 0 (by simp)
    have h2 := h 1 (by simp)
    have h3 := h 2 (by simp)
    simp at h1 h2 h3 hk
    rcases (show k = 0 ∨ k = 1 ∨ k = 2 by omega) with rfl | rfl | rfl <;> simp [ordC] <;> omega
  | [a, b, c, d], _, h, hk =>
    have h1 := h 0 (by simp)
    have h2 := h 1 (by simp)
    have h3 := h 2 (by simp)
    have h4 := h 3 (by simp)
    simp at h1 h2 h3 h4 hk
    rcases (show k = 0 ∨ k = 1 ∨ k = 2 ∨ k = 3 by omega) with rfl | rfl | rfl | rfl <;> simp [ordC] <;> omega
  | a :: b :: c :: d :: e :: l, hn, _, _ => simp at hn
open Classical in
noncomputable def ordB (n : Nat) (l : List Int) : Bool := decide (IsOrd n l)
open Classical in
theorem ordB_yes {n : Nat} {l : List Int} (h : IsOrd n l) : ordB n l = true := decide_eq_true h
open Classical in
theorem ordB_no {n : Nat} {l : List Int} (h : ¬ IsOrd n l) : ordB n l = false := decide_eq_false h

/-! ### Is a number in a list -/
end Go.Proofs.YtcmnkhblnlmfpaaGreatDoor
namespace Go.Proofs.YtcmnkhblnlmfpaaGreatDoor
open Go.RowKit

/-- What RelabelCartan accepts. -/
def RelOk (m : List (List Int)) (l : List Int) : Prop := IsC m ∧ IsOrd m.length l
open Classical in
noncomputable def relB (m : List (List Int)) (l : List Int) : Bool := decide (RelOk m l)
noncomputable def relM (m : List (List Int)) (l : List Int) : List (List Int) := if relB m l = true then pick m l else []
open Classical in
theorem relB_yes {m : List (List Int)} {l : List Int} (h : RelOk m l) : relB m l = true := decide_eq_true h
open Classical in
theorem relB_no {m : List (List Int)} {l : List Int} (h : ¬ RelOk m l) : relB m l = false := decide_eq_false h
theorem relM_yes {m : List (List Int)} {l : List Int} (h : RelOk m l) : relM m l = pick m l := if_pos (relB_yes h)
theorem relM_no {m : List (List Int)} {l : List Int} (h : ¬ RelOk m l) : relM m l = [] := by unfold relM; rw [relB_no h]; rfl
theorem relM_small (m : List (List Int)) (l : List Int) : szSum (relM m l) ≤ 1048576 := by
  by_cases h : RelOk m l
  · rw [relM_yes h]
    have h1 := h.2.1
    have h2 := h.1.2.2.2
    exact fullF_small _ _ (by omega)
  · rw [relM_no h]; decide
/-- The capacity of a list of the call's own. -/
def CapOk (v : Value) : Prop := ∀ a n cap, v = .slice a n cap → n ≤ cap
theorem RowI.capOk {A B : Nat} {w : World} {v : Value} {l : List Int} (h : RowI A B w v l) : CapOk v := fun a n cap e => by
  rcases h.1.2 with ⟨rfl, _⟩ | ⟨g, cap', cur, rfl, _, _, hn, _⟩
  · injection e with _ h2 h3; omega
  · injection e with _ h2 h3; omega
theorem OwnS.capOk {A B : Nat} {w : World} {v : Value} {l : List Int} (h : OwnS A B w v l) : CapOk v := h.1.capOk
theorem RowB.take {B : Nat} {w : World} {b off n cap : Nat} {l : List Int} (h : RowB B w (.slice (some ⟨b, off, none⟩) n cap) l) {k : Nat} (hk : k < n) (cap' : Nat) : RowB B w (.slice (some ⟨b, off, none⟩) k cap') (l.take k) := by
  obtain ⟨b1, off1, hl, ha, hb, _⟩ := h.get hk
  injection ha with ha
  injection ha with ha1 ha2
  subst ha1
  subst ha2
  refine Or.inr ⟨b, off, cap', by rw [List.length_take, Nat.min_eq_left (by omega)], hb, fun j hj => ?_⟩
  have hj' : j < k := by rw [List.length_take] at hj; omega
  rw [h.prev (show j < n by omega)]
  simp [List.getD, show j < l.length by omega]

theorem below_da {w w1 : World} (h : Below w.heap.size w w1) (q : Nat) (o : Obj) : Below w.heap.size w ((w1.drewN q).alloc o) :=
  (h.trans ((below_drewN q).mono h.size)).alloc h.size o

/-! ### The model -/
end Go.Proofs.YtcmnkhblnlmfpaaGreatDoor
