/-
  All sets of points in the order of binary numbers, principal minors and the first set whose minor is not positive (no walk here).
  Orders of points: what they are, and the calls that ask whether a list is one.
  RelabelCartan of the model and of the program: what each call returns.
  PartsOf of the model and of the program: what each call returns.
-/
import Derived.Test.YtcmnkhblnlmfpaaGreatDoorFW21
import Derived.Test.YtcmnkhblnlmfpaaGreatDoorFW23
namespace Go.Proofs.YtcmnkhblnlmfpaaGreatDoor
open Go.RowKit

theorem fullM_get (f : Nat → Nat → Int) (n i : Nat) (h : i < n) : (fullF f n).getD i [] = rowF f n i := by simp [fullF, List.getD, h]
theorem fullM_entry (f : Nat → Nat → Int) (n i j : Nat) (hi : i < n) (hj : j < n) : entry (fullF f n) i j = f i j := by
  unfold entry
  rw [fullM_get f n i hi]
  simp [rowF, List.getD, hj]
/-! ### Sets by masks -/
def setK (mask k : Nat) : List Nat := (List.range k).filter fun i => mask.testBit i
def setsL (n k : Nat) : List (List Nat) := (List.range k).map fun t => setK (t + 1) n
theorem setK_yes {mask k : Nat} (h : mask.testBit k = true) : setK mask k ++ [k] = setK mask (k + 1) := by
  unfold setK
  rw [List.range_succ, List.filter_append, List.filter_cons_of_pos h]; rfl
theorem setK_no {mask k : Nat} (h : mask.testBit k = false) : setK mask k = setK mask (k + 1) := by
  unfold setK
  rw [List.range_succ, List.filter_append, List.filter_cons_of_neg (by rw [h]; simp)]; simp
theorem setK_len (mask k : Nat) : (setK mask k).length ≤ k := by
  unfold setK
  exact Nat.le_trans (List.length_filter_le _ _) (by rw [List.length_range]; exact Nat.le_refl _)
theorem setsL_len (n k : Nat) : (setsL n k).length = k := by simp [setsL]
theorem setsL_step (n k : Nat) : setsL n k ++ [setK (k + 1) n] = setsL n (k + 1) := by
  unfold setsL
  rw [List.range_succ, List.map_append]; rfl
theorem setsL_get (n k t : Nat) (h : t < k) : (setsL n k).getD t [] = setK (t + 1) n := by simp [setsL, List.getD, h]
def SetsOk (n : Nat) : Prop := ∀ t, t < 2 ^ n - 1 → (setK (t + 1) n).length ≠ 0 ∧ ∀ k, k < (setK (t + 1) n).length → (setK (t + 1) n).getD k 0 < n ∧ (0 < k → (setK (t + 1) n).getD (k - 1) 0 < (setK (t + 1) n).getD k 0)
instance (n : Nat) : Decidable (SetsOk n) := by unfold SetsOk; infer_instance
theorem sets_ok (n : Nat) (h : n ≤ 4) : SetsOk n := by
  rcases (show n = 0 ∨ n = 1 ∨ n = 2 ∨ n = 3 ∨ n = 4 by omega) with rfl | rfl | rfl | rfl | rfl <;> decide +kernel
theorem set_is {n : Nat} (h : n ≤ 4) {t : Nat} (ht : t < 2 ^ n - 1) : IsSet n (intL (setK (t + 1) n)) ∧ intL (setK (t + 1) n) ≠ [] := by
  obtain ⟨h0, h1⟩ := sets_ok n h t ht
  refine ⟨fun k hk => ?_, fun e => h0 (by have := congrArg List.length e; rw [intL_len] at this; exact this)⟩
  rw [intL_len] at hk
  obtain ⟨h2, h3⟩ := h1 k hk
  refine ⟨by rw [intL_get _ _ hk]; omega, fun ⟨h4, h5⟩ => ?_⟩
  rw [intL_get _ _ hk, intL_get _ _ (by omega)] at h5
  have := h3 h4
  omega
theorem set_sub {m : List (List Int)} (hI : IsC m) {t : Nat} (ht : t < 2 ^ m.length - 1) : SubOk m (intL (setK (t + 1) m.length)) :=
  ⟨hI, (set_is hI.2.2.2 ht).2, (set_is hI.2.2.2 ht).1⟩

/-! ### Minors -/
theorem pick_len (m : List (List Int)) (l : List Int) : (pick m l).length = l.length := fullF_len _ _
theorem pick_rows (m : List (List Int)) (l : List Int) : Rows0 (pick m l) l.length l.length := fun i hi => by
  unfold pick
  rw [fullM_get _ _ _ hi, rowF_len]
theorem pick_bd {m : List (List Int)} (hb : Bd m) (l : List Int) : Bd (pick m l) := fun i j => by
  unfold pick
  by_cases hi : i < l.length
  · by_cases hj : j < l.length
    · rw [fullM_entry _ _ _ _ hi hj]; exact hb _ _
    · have : entry (fullF (ptsF m l) l.length) i j = 0 := by
        unfold entry
        rw [fullM_get _ _ _ hi, List.getD_eq_getElem?_getD, List.getElem?_eq_none (by rw [rowF_len]; omega)]; rfl
      rw [this]; decide
  · have : entry (fullF (ptsF m l) l.length) i j = 0 := by
      unfold entry
      have e : (fullF (ptsF m l) l.length).getD i [] = [] := by rw [List.getD_eq_getElem?_getD, List.getElem?_eq_none (by rw [fullF_len]; omega)]; rfl
      rw [e]; simp
    rw [this]; decide
/-- The minor of the set with number t + 1. -/
def minP (m : List (List Int)) (t : Nat) : Int := detF (setK (t + 1) m.length).length (pick m (intL (setK (t + 1) m.length)))
def minK (m : List (List Int)) (k : Nat) : List Int := (List.range k).map (minP m)
theorem minK_step (m : List (List Int)) (k : Nat) : minK m k ++ [minP m k] = minK m (k + 1) := by
  unfold minK
  rw [List.range_succ, List.map_append]; rfl
theorem minK_len (m : List (List Int)) (k : Nat) : (minK m k).length = k := by simp [minK]
open Classical in
noncomputable def minV (m : List (List Int)) : List Int := if IsC m then minK m (2 ^ m.length - 1) else []
theorem minV_yes {m : List (List Int)} (h : IsC m) : minV m = minK m (2 ^ m.length - 1) := if_pos h
theorem minV_no {m : List (List Int)} (h : ¬ IsC m) : minV m = [] := if_neg h
theorem two_pow_le (n : Nat) (h : n ≤ 4) : 2 ^ n - 1 ≤ 15 := by
  rcases (show n = 0 ∨ n = 1 ∨ n = 2 ∨ n = 3 ∨ n = 4 by omega) with rfl | rfl | rfl | rfl | rfl <;> decide
theorem minV_len (m : List (List Int)) : (minV m).length ≤ 15 := by
  by_cases h : IsC m
  · rw [minV_yes h, minK_len]; exact two_pow_le _ h.2.2.2
  · rw [minV_no h]; simp
open Classical in
noncomputable def detV (m : List (List Int)) : Int := if IsC m then detF m.length m else 0
theorem detV_yes {m : List (List Int)} (h : IsC m) : detV m = detF m.length m := if_pos h
theorem detV_no {m : List (List Int)} (h : ¬ IsC m) : detV m = 0 := if_neg h

/-! ### The witness -/
/-- The first t below k whose minor is not positive, if there is one. -/
def witT (m : List (List Int)) (k : Nat) : Option Nat := (List.range k).find? fun t => decide (minP m t ≤ 0)
theorem witT_step_no {m : List (List Int)} {k : Nat} (h : witT m k = none) (hk : ¬ minP m k ≤ 0) : witT m (k + 1) = none := by
  unfold witT at h ⊢
  rw [List.range_succ, List.find?_append, h]
  simp [hk]
theorem witT_hit {m : List (List Int)} {k : Nat} (h : witT m k = none) (hk : minP m k ≤ 0) (N : Nat) (hN : k < N) : witT m N = some k := by
  have h1 : witT m (k + 1) = some k := by
    unfold witT at h ⊢
    rw [List.range_succ, List.find?_append, h]
    simp [hk]
  have e : List.range N = List.range (k + 1) ++ (List.range N).drop (k + 1) := by
    have h2 : (List.range N).take (k + 1) = List.range (k + 1) := by rw [List.take_range]; congr 1; omega
    rw [← h2, List.take_append_drop]
  unfold witT at h1 ⊢
  rw [e, List.find?_append, h1]; rfl
open Classical in
noncomputable def witV (m : List (List Int)) : List Int := if IsC m then (match witT m (2 ^ m.length - 1) with | none => [] | some t => intL (setK (t + 1) m.length)) else []
theorem witV_hit {m : List (List Int)} (h : IsC m) {t : Nat} (ht : witT m (2 ^ m.length - 1) = some t) : witV m = intL (setK (t + 1) m.length) := by unfold witV; rw [if_pos h, ht]
theorem witV_none {m : List (List Int)} (h : IsC m) (ht : witT m (2 ^ m.length - 1) = none) : witV m = [] := by unfold witV; rw [if_pos h, ht]
theorem witV_no {m : List (List Int)} (h : ¬ IsC m) : witV m = [] := if_neg h
theorem witV_len (m : List (List Int)) : (witV m).length ≤ 4 := by
  by_cases h : IsC m
  · cases ht : witT m (2 ^ m.length - 1) with
    | none => rw [witV_none h ht]; simp
    | some t =>
      rw [witV_hit h ht, intL_len]
      exact Nat.le_trans (setK_len _ _) h.2.2.2
  · rw [witV_no h]; simp
end Go.Proofs.YtcmnkhblnlmfpaaGreatDoor
namespace Go.Proofs.YtcmnkhblnlmfpaaGreatDoor
open Go.RowKit

def hasB (l : List Int) (x : Int) : Bool := decide (x ∈ l)
theorem hasB_yes {l : List Int} {x : Int} (h : x ∈ l) : hasB l x = true := decide_eq_true h
theorem hasB_no {l : List Int} {x : Int} (h : ¬ x ∈ l) : hasB l x = false := decide_eq_false h
theorem take_getD {l : List Int} {k : Nat} (hk : k < l.length) : l.take (k + 1) = l.take k ++ [l.getD k 0] := by
  rw [List.take_succ_eq_append_getElem hk]; simp [List.getD, hk]
theorem mem_getD {l : List Int} {k : Nat} (hk : k < l.length) : l.getD k 0 ∈ l := by
  have : l.getD k 0 = l[k] := by simp [List.getD, hk]
  rw [this]; exact List.getElem_mem hk
/-- An order, as the model asks for it. -/
def ordC (n : Nat) (l : List Int) (k : Nat) : Prop := (0 ≤ l.getD k 0 ∧ l.getD k 0 ≤ (n : Int) - 1) ∧ ¬ l.getD k 0 ∈ l.take k
def OrdTo (n : Nat) (l : List Int) (k : Nat) : Prop := ∀ i, i < k → ordC n l i
theorem ordTo_step {n k : Nat} {l : List Int} (h : OrdTo n l k) (hk : ordC n l k) : OrdTo n l (k + 1) := fun i hi => by
  rcases Nat.lt_or_ge i k with h' | h'
  · exact h i h'
  · obtain rfl : i = k := by omega
    exact hk
def IsOrd (n : Nat) (l : List Int) : Prop := l.length = n ∧ OrdTo n l l.length
theorem isOrd_pt {n : Nat} {l : List Int} (h : IsOrd n l) : AllPt n l := fun k hk => (h.2 k hk).1
/-- The same, as the program asks for it. -/
def HasAll (n : Nat) (l : List Int) : Prop := l.length = n ∧ ∀ j : Nat, j < n → (j : Int) ∈ l
theorem fin4 {a : Int} (h : 0 ≤ a ∧ a ≤ 3) : a = 0 ∨ a = 1 ∨ a = 2 ∨ a = 3 := by omega
theorem ord_all0 (l : List Int) (n : Nat) (hn : n ≤ 4) (h : IsOrd n l) : HasAll n l := by
  obtain ⟨h0, h⟩ := h
  refine ⟨h0, fun j hj => ?_⟩
  subst h0
  match l, hn, h, hj with
  | [], _, _, hj => simp at hj
  | [a], _, h, hj =>
    have h1 := h 0 (by simp)
    simp [ordC] at h1 hj ⊢
    omega
  | [a, b], _, h, hj =>
    have h1 := h 0 (by simp)
    have h2 := h 1 (by simp)
    simp [ordC] at h1 h2 hj ⊢
    omega
  | [a, b, c], _, h, hj =>
    have h1 := h 0 (by simp)
    have h2 := h 1 (by simp)
    have h3 := h 2 (by simp)
    simp [ordC] at h1 h2 h3 hj ⊢
    omega
  | [a, b, c, d], _, h, hj =>
    have h1 := h 0 (by simp)
    have h2 := h 1 (by simp)
    have h3 := h 2 (by simp)
    have h4 := h 3 (by simp)
    simp [ordC] at h1 h2 h3 h4 hj ⊢
    omega
  | a :: b :: c :: d :: e :: l, hn, _, _ => simp at hn
theorem ord_all1 (l : List Int) (n : Nat) (hn : n ≤ 4) (h : HasAll n l) : IsOrd n l := by
  obtain ⟨h0, h⟩ := h
  refine ⟨h0, fun k hk => ?_⟩
  subst h0
  match l, hn, h, hk with
  | [], _, _, hk => simp at hk
  | [a], _, h, hk =>
    have h1 := h 0 (by simp)
    simp at h1 hk
    subst hk
    simp [ordC]
    omega
  | [a, b], _, h, hk =>
    have h1 := h 0 (by simp)
    have h2 := h 1 (by simp)
    simp at h1 h2 hk
    rcases (show k = 0 ∨ k = 1 by omega) with rfl | rfl <;> simp [ordC] <;> omega
  | [a, b, c], _, h, hk =>
    have h1 := h 0 (by simp)
    have h2 := h 1 (by simp)
    have h3 := h 2 (by simp)
    simp at h1 h2 h3 hk
    rcases (show k = 0 ∨ k = 1 ∨ k = 2 by omega) with rfl | rfl | rfl <;> simp [ordC] <;> omega
  | [a, b, c, d], _, h, hk =>
    have h1 := h 0 (by simp)
    have h2 := h 1 (by simp)
    have h3 := h 2 (by simp)
    have h4 := h 3 (by simp)
    simp at h1 h2 h3 h4 hk
    rcases (show k = 0 ∨ k = 1 ∨ k = 2 ∨ k = 3 by omega) with rfl | rfl | rfl | rfl <;> simp [ordC] <;> omega
  | a :: b :: c :: d :: e :: l, hn, _, _ => simp at hn
open Classical in
noncomputable def ordB (n : Nat) (l : List Int) : Bool := decide (IsOrd n l)
open Classical in
theorem ordB_yes {n : Nat} {l : List Int} (h : IsOrd n l) : ordB n l = true := decide_eq_true h
open Classical in
theorem ordB_no {n : Nat} {l : List Int} (h : ¬ IsOrd n l) : ordB n l = false := decide_eq_false h

/-! ### Is a number in a list -/
end Go.Proofs.YtcmnkhblnlmfpaaGreatDoor
namespace Go.Proofs.YtcmnkhblnlmfpaaGreatDoor
open Go.RowKit

/-- What RelabelCartan accepts. -/
def RelOk (m : List (List Int)) (l : List Int) : Prop := IsC m ∧ IsOrd m.length l
open Classical in
noncomputable def relB (m : List (List Int)) (l : List Int) : Bool := decide (RelOk m l)
noncomputable def relM (m : List (List Int)) (l : List Int) : List (List Int) := if relB m l = true then pick m l else []
open Classical in
theorem relB_yes {m : List (List Int)} {l : List Int} (h : RelOk m l) : relB m l = true := decide_eq_true h
open Classical in
theorem relB_no {m : List (List Int)} {l : List Int} (h : ¬ RelOk m l) : relB m l = false := decide_eq_false h
theorem relM_yes {m : List (List Int)} {l : List Int} (h : RelOk m l) : relM m l = pick m l := if_pos (relB_yes h)
theorem relM_no {m : List (List Int)} {l : List Int} (h : ¬ RelOk m l) : relM m l = [] := by unfold relM; rw [relB_no h]; rfl
theorem relM_small (m : List (List Int)) (l : List Int) : szSum (relM m l) ≤ 1048576 := by
  by_cases h : RelOk m l
  · rw [relM_yes h]
    have h1 := h.2.1
    have h2 := h.1.2.2.2
    exact fullF_small _ _ (by omega)
  · rw [relM_no h]; decide
/-- The capacity of a list of the call's own. -/
def CapOk (v : Value) : Prop := ∀ a n cap, v = .slice a n cap → n ≤ cap
theorem RowI.capOk {A B : Nat} {w : World} {v : Value} {l : List Int} (h : RowI A B w v l) : CapOk v := fun a n cap e => by
  rcases h.1.2 with ⟨rfl, _⟩ | ⟨g, cap', cur, rfl, _, _, hn, _⟩
  · injection e with _ h2 h3; omega
  · injection e with _ h2 h3; omega
theorem OwnS.capOk {A B : Nat} {w : World} {v : Value} {l : List Int} (h : OwnS A B w v l) : CapOk v := h.1.capOk
theorem RowB.take {B : Nat} {w : World} {b off n cap : Nat} {l : List Int} (h : RowB B w (.slice (some ⟨b, off, none⟩) n cap) l) {k : Nat} (hk : k < n) (cap' : Nat) : RowB B w (.slice (some ⟨b, off, none⟩) k cap') (l.take k) := by
  obtain ⟨b1, off1, hl, ha, hb, _⟩ := h.get hk
  injection ha with ha
  injection ha with ha1 ha2
  subst ha1
  subst ha2
  refine Or.inr ⟨b, off, cap', by rw [List.length_take, Nat.min_eq_left (by omega)], hb, fun j hj => ?_⟩
  have hj' : j < k := by rw [List.length_take] at hj; omega
  rw [h.prev (show j < n by omega)]
  simp [List.getD, show j < l.length by omega]

theorem below_da {w w1 : World} (h : Below w.heap.size w w1) (q : Nat) (o : Obj) : Below w.heap.size w ((w1.drewN q).alloc o) :=
  (h.trans ((below_drewN q).mono h.size)).alloc h.size o

/-! ### The model -/
end Go.Proofs.YtcmnkhblnlmfpaaGreatDoor
namespace Go.Proofs.YtcmnkhblnlmfpaaGreatDoor
open Go.RowKit

/-! ### The diagram of a valid matrix is a graph of at most four points -/
theorem nbF_low {m : List (List Int)} {p j : Nat} (h : m.length ≤ p) : nbF m p j = false := by
  have : entry m p j = 0 := by unfold entry; simp [List.getD, List.getElem?_eq_none h]
  exact decide_eq_false (fun hh => hh.2 this)
theorem nbF_far {m : List (List Int)} (hI : IsC m) {p j : Nat} (hp : p < m.length) (h : m.length ≤ j) : nbF m p j = false := by
  have h1 := hI.1 p hp
  have : entry m p j = 0 := by
    unfold entry
    have h2 : (m.getD p []).length ≤ j := by omega
    rw [List.getD_eq_getElem?_getD (l := m.getD p []), List.getElem?_eq_none h2]; rfl
  exact decide_eq_false (fun hh => hh.2 this)
theorem nbF_sym {m : List (List Int)} (hI : IsC m) (p j : Nat) : nbF m p j = nbF m j p := by
  by_cases hp : p < m.length
  · by_cases hj : j < m.length
    · unfold nbF
      have h1 := hI.2.1 p j hp hj
      by_cases e : j = p
      · subst e; rfl
      · have h2 : entry m p j = 0 ↔ entry m j p = 0 := by
          rcases h1 with h1 | h1
          · exact absurd h1.1.symm e
          · exact h1.2.2
        rw [decide_eq_decide]
        constructor
        · rintro ⟨h3, h4⟩; exact ⟨fun e => h3 e.symm, fun h5 => h4 (h2.2 h5)⟩
        · rintro ⟨h3, h4⟩; exact ⟨fun e => h3 e.symm, fun h5 => h4 (h2.1 h5)⟩
    · rw [nbF_far hI hp (by omega), nbF_low (by omega)]
  · by_cases hj : j < m.length
    · rw [nbF_low (by omega), nbF_far hI hj (by omega)]
    · rw [nbF_low (by omega), nbF_low (by omega)]
theorem nbF_self (m : List (List Int)) (p : Nat) : nbF m p p = false := decide_eq_false (fun h => h.1 rfl)
theorem nbF_gr {m : List (List Int)} (hI : IsC m) (p j : Nat) (hj : j < m.length) : nbF m p j = grE (nbF m 0 1) (nbF m 0 2) (nbF m 0 3) (nbF m 1 2) (nbF m 1 3) (nbF m 2 3) p j := by
  have h4 := hI.2.2.2
  by_cases hp : p < 4
  · have hj4 : j < 4 := by omega
    rcases (show p = 0 ∨ p = 1 ∨ p = 2 ∨ p = 3 by omega) with rfl | rfl | rfl | rfl <;> rcases (show j = 0 ∨ j = 1 ∨ j = 2 ∨ j = 3 by omega) with rfl | rfl | rfl | rfl <;>
      first | exact nbF_self m _ | rfl | exact nbF_sym hI _ _
  · rw [nbF_low (by omega)]
    obtain ⟨q, rfl⟩ : ∃ q, p = q + 4 := ⟨p - 4, by omega⟩
    rcases (show j = 0 ∨ j = 1 ∨ j = 2 ∨ j = 3 by omega) with rfl | rfl | rfl | rfl <;> rfl
theorem nbG_gr {m : List (List Int)} (hI : IsC m) : nbG m m.length = grN (grE (nbF m 0 1) (nbF m 0 2) (nbF m 0 3) (nbF m 1 2) (nbF m 1 3) (nbF m 2 3)) m.length := by
  funext p
  unfold nbG grN
  exact List.filter_congr fun j hj => nbF_gr hI p j (List.mem_range.1 hj)
theorem nbG_ok {m : List (List Int)} (hI : IsC m) : GrOk (nbG m m.length) m.length := by
  rw [nbG_gr hI]; exact grOk_all _ hI.2.2.1 hI.2.2.2 _ _ _ _ _ _
theorem edges_gr {m : List (List Int)} (hI : IsC m) (k : Nat) (hk : k ≤ m.length) : edgesN (nbF m) k = edgesN (grE (nbF m 0 1) (nbF m 0 2) (nbF m 0 3) (nbF m 1 2) (nbF m 1 3) (nbF m 2 3)) k := by
  unfold edgesN
  congr 1
  apply List.map_congr_left
  intro i hi
  have hi := List.mem_range.1 hi
  congr 1
  exact List.filter_congr fun j hj => nbF_gr hI i j (by have := List.mem_range.1 hj; omega)
theorem edges_ok {m : List (List Int)} (hI : IsC m) : endsN (nbG m m.length) m.length / 2 = edgesN (nbF m) m.length := by
  rw [edges_gr hI _ (Nat.le_refl _), nbG_gr hI]; exact edOk_all _ hI.2.2.1 hI.2.2.2 _ _ _ _ _ _

/-! ### What PartsOf returns -/
def partsL (m : List (List Int)) : List (List Nat) := partsM (nbG m m.length) m.length m.length
open Classical in
noncomputable def partsV (m : List (List Int)) : List (List Int) := if IsC m then (partsL m).map intL else []
theorem partsV_yes {m : List (List Int)} (h : IsC m) : partsV m = (partsL m).map intL := if_pos h
theorem partsV_no {m : List (List Int)} (h : ¬ IsC m) : partsV m = [] := if_neg h
theorem partsM_yes {G : Nat → List Nat} {n i : Nat} (h : (mPart G n i).getD 0 0 = i) : partsM G n i ++ [mPart G n i] = partsM G n (i + 1) := by
  show _ = if _ then _ else _
  rw [if_pos h]
theorem partsM_no {G : Nat → List Nat} {n i : Nat} (h : ¬ (mPart G n i).getD 0 0 = i) : partsM G n i = partsM G n (i + 1) := by
  show _ = if _ then _ else _
  rw [if_neg h]
theorem partsM_len (G : Nat → List Nat) (n i : Nat) : (partsM G n i).length ≤ i := by
  induction i with
  | zero => exact Nat.le_refl _
  | succ i ih =>
    by_cases h : (mPart G n i).getD 0 0 = i
    · rw [← partsM_yes h, List.length_append]; simp; exact ih
    · rw [← partsM_no h]; omega
theorem partsP_yes {G : Nat → List Nat} {n i : Nat} (h : (partsP G n i).1.getD i false = true) : partsP G n (i + 1) = partsP G n i := by
  show (if _ then _ else _) = _
  rw [if_pos h]
theorem partsP_no {G : Nat → List Nat} {n i : Nat} (h : (partsP G n i).1.getD i false = false) :
    partsP G n (i + 1) = ((bfsE G (start n i (partsP G n i).1)).1, (partsP G n i).2 ++ [sortN n (bfsE G (start n i (partsP G n i).1)).2]) := by
  show (if _ then _ else _) = _
  rw [if_neg (by rw [h]; simp)]
theorem partsP_len (G : Nat → List Nat) (n i : Nat) : (partsP G n i).2.length ≤ i := by
  induction i with
  | zero => exact Nat.le_refl _
  | succ i ih =>
    cases h : (partsP G n i).1.getD i false with
    | true => rw [partsP_yes h]; omega
    | false => rw [partsP_no h]; simp; exact ih
theorem partsV_len (m : List (List Int)) : (partsV m).length ≤ 4 := by
  by_cases h : IsC m
  · rw [partsV_yes h, List.length_map]
    have h1 := partsM_len (nbG m m.length) m.length m.length
    have := h.2.2.2
    unfold partsL
    omega
  · rw [partsV_no h]; simp
theorem partsV_le {m : List (List Int)} (h : IsC m) : (partsV m).length ≤ m.length := by
  rw [partsV_yes h, List.length_map]
  exact partsM_len (nbG m m.length) m.length m.length
theorem partsV_small (m : List (List Int)) : szSum (partsV m) ≤ 1048576 := by
  by_cases h : IsC m
  · have h1 := partsV_len m
    have h2 : ((partsV m).map List.length).sum ≤ m.length := by
      rw [partsV_yes h, List.map_map]
      have : (List.length ∘ intL) = List.length := by funext q; exact intL_len q
      rw [this]
      exact (nbG_ok h).2.2.2.2
    have := h.2.2.2
    unfold szSum
    omega
  · rw [partsV_no h]; decide

/-! ### The model -/
set_option maxHeartbeats 4000000 in
set_option maxRecDepth 100000 in
theorem parts_any (B : Nat) (v : Value) (m : List (List Int)) (w : World) (h : MatB B w v m) (hB : B ≤ w.heap.size) (hf : RowsFit m) :
    Calls Tryz.prog 52 #[v] w (MakesM w (partsV m)) := by
  obtain ⟨a, cap, rfl⟩ := h.slice
  have hl := hf.1
  have HR := Lib.hid h; clear h
  have HF := Lib.hid hf; clear hf
  by_cases hI : IsC m
  · have HI := Lib.hid hI
    have hn4 := hI.2.2.2
    have HC := Lib.hid (isB_yes hI)
    have HV := Lib.hid (show partsV m = (partsM (nbG m m.length) m.length m.length).map intL from partsV_yes hI)
    have HOK := Lib.hid (nbG_ok hI)
    clear hI
    have HLP := Lib.hid (l3p_any B (.slice a m.length cap) m)
    generalize partsV m = R at *
    generalize hG : nbG m m.length = G at *
    generalize hn : m.length = n at *
    have HN := Lib.hid hn; clear hn
    have HGE := Lib.hid hG; clear hG
    unfold maxLen at hl
    go_enter Tryz.func52, Tryz.ntmps52
    go_wp2_with fail
    go_loopw [3, 4] (fun o i wr => ∃ (k : Nat) (wq : World), wq = wr ∧ k ≤ n ∧ i = .int .i64 k ∧ MatI w.heap.size wq.heap.size wq o ((partsM G n k).map intL) ∧ Below w.heap.size w wq) (fun _ i _ => n - (intOf i).toNat)
    case atStart => exact ⟨0, _, rfl, Nat.zero_le _, rfl, mat_empty w, (Below.refl _ _).alloc (Nat.le_refl _) _⟩
    case round =>
      obtain ⟨k, wq, rfl, hk, rfl, hM, hb⟩ := hrel
      have HM := Lib.hid hM; clear hM
      have HB := Lib.hid hb; clear hb
      by_cases hlt : k < n
      · have hlt' : decide (k < n) = true := decide_eq_true hlt
        go_wp2_with fail
        refine (isc_w B _ m true HC.out _ (HR.out.below HB.out hB) HF.out).mono ?_
        rintro e w2 ⟨rfl, hb2⟩
        have HM2 := Lib.hid (HM.out.step hb2)
        have HB2 := Lib.hid (HB.out.trans (hb2.mono HB.out.size))
        clear hb2 HM HB
        go_wp2_with fail
        refine (HLP.out k w2 (HR.out.below HB2.out hB) (Nat.le_trans hB HB2.out.size) HF.out HI.out hlt).mono ?_
        rintro e w3 ⟨x, rfl, hx, hb3⟩
        have HB3 := Lib.hid (HB2.out.trans (hb3.mono HB2.out.size))
        have HM3 := Lib.hid (HM2.out.same (SameIn.of_below hb3 (Nat.le_refl _)))
        have hs3 := hb3.size
        have hs2 := HB2.out.size
        clear hb3
        have hpl : (mPart G n k).length ≠ 0 := HOK.out.2.1 k hlt
        obtain ⟨xa, xcap, rfl⟩ := hx.1.slice
        obtain ⟨xb, xoff, rfl, hxb, hxc⟩ := RowB.getD (j := 0) hx.1.rowB (by rw [intL_len]; omega)
        rw [intL_get _ _ (by omega), Nat.add_zero] at hxc
        have HX := Lib.hid hx; clear hx
        have hml : ((partsM G n k).map intL).length ≤ 1048576 := by rw [List.length_map]; have := partsM_len G n k; omega
        have HML := Lib.hid hml; clear hml
        have hpl2 : 0 < (intL (mPart G n k)).length := by rw [intL_len]; omega
        clear hpl
        by_cases hq : (mPart G n k).getD 0 0 = k
        · have hq' : (((mPart G n k).getD 0 0 : Nat) : Int) == (k : Int) := by rw [beq_iff_eq]; omega
          have HST := Lib.hid (partsM_yes hq)
          clear hq
          generalize (mPart G n k).getD 0 0 = p0 at *
          generalize (intL (mPart G n k)).length = pl at *
          go_wp2_with (at_builtin; go_must (refine append_row HM3.out HX.out.1 hs2 hs3 rfl rfl rfl rfl HML.out ?_; intro v' w4 hm4 hb4 hz4))
          have hm4' : MatI w.heap.size w4.heap.size w4 v' ((partsM G n (k + 1)).map intL) := by
            rw [← HST.out, List.map_append]; exact hm4
          have HM4 := Lib.hid hm4'
          have HB4 := Lib.hid (hb4 w w.heap.size (Nat.le_refl _) HB3.out)
          clear hm4 hm4' hb4 hz4
          go_wp2_with fail
          exact ⟨⟨k + 1, _, rfl, by omega, by go_num, HM4.out, HB4.out⟩, by simp [intOf]; omega⟩
        · have hq' : ((((mPart G n k).getD 0 0 : Nat) : Int) == (k : Int)) = false := by rw [beq_eq_false_iff_ne]; omega
          have HST := Lib.hid (partsM_no hq)
          clear hq
          generalize (mPart G n k).getD 0 0 = p0 at *
          generalize (intL (mPart G n k)).length = pl at *
          go_wp2_with fail
          exact ⟨⟨k + 1, _, rfl, by omega, by go_num, by rw [← HST.out]; exact HM3.out.mono (Nat.le_refl _) hs3, HB3.out⟩, by simp [intOf]; omega⟩
      · obtain rfl : n = k := by omega
        have hlt' : decide (n < n) = false := by simp
        go_wp2_with fail
        go_ret
        exact ⟨_, rfl, by rw [HV.out]; exact ⟨HM.out, Nat.le_refl _⟩, HB.out⟩
  · have HC := Lib.hid (isB_no hI)
    have HV := Lib.hid (partsV_no hI)
    clear hI
    generalize partsV m = R at *
    generalize hn : m.length = n at *
    unfold maxLen at hl
    have HN := Lib.hid hn; clear hn
    go_enter Tryz.func52, Tryz.ntmps52
    go_wp2_with fail
    go_loopw [3, 4] (fun o i wr => i = .int .i64 0 ∧ o = .slice (some ⟨w.heap.size, 0, none⟩) 0 0 ∧ wr = w.alloc (.cells #[] 25)) (fun _ _ _ => 0)
    case atStart => exact ⟨rfl, rfl, rfl⟩
    case round =>
      obtain ⟨rfl, rfl, rfl⟩ := hrel
      have hb : Below w.heap.size w (w.alloc (.cells #[] 25)) := (Below.refl _ _).alloc (Nat.le_refl _) _
      have HB := Lib.hid hb; clear hb
      by_cases h0 : 0 < n
      · go_wp2_with fail
        refine (isc_w B _ m false HC.out _ (HR.out.below HB.out hB) HF.out).mono ?_
        rintro e w2 ⟨rfl, hb2⟩
        have HB2 := Lib.hid hb2; clear hb2
        go_wp2_with fail
        go_ret
        exact makesM_nil HV.out ((mat_empty w).step HB2.out) (HB.out.trans (HB2.out.mono HB.out.size))
      · have hd : decide (0 < n) = false := decide_eq_false h0
        go_wp2_with fail
        go_ret
        exact makesM_nil HV.out (mat_empty w) HB.out

/-! ### The program -/
set_option maxHeartbeats 4000000 in
set_option maxRecDepth 100000 in
theorem parti_any (B : Nat) (v : Value) (m : List (List Int)) (w : World) (h : MatB B w v m) (hB : B ≤ w.heap.size) (hf : RowsFit m) :
    Calls Tryz.prog 90 #[v] w (MakesM w (partsV m)) := by
  obtain ⟨a, cap, rfl⟩ := h.slice
  have hl := hf.1
  have HR := Lib.hid h; clear h
  have HF := Lib.hid hf; clear hf
  by_cases hI : IsC m
  · have HI := Lib.hid hI
    have hn4 := hI.2.2.2
    have HC := Lib.hid (isB_yes hI)
    have HV := Lib.hid (show partsV m = (partsM (nbG m m.length) m.length m.length).map intL from partsV_yes hI)
    have HOK := Lib.hid (nbG_ok hI)
    clear hI
    have HPA := Lib.hid (fun A => part_any B A (.slice a m.length cap) m)
    generalize partsV m = R at *
    generalize hG : nbG m m.length = G at *
    generalize hn : m.length = n at *
    have HN := Lib.hid hn; clear hn
    have HGE := Lib.hid hG; clear hG
    unfold maxLen at hl
    have HMK := Lib.hid (makeBools n (by omega))
    have HSM := Lib.hid (fun w => seen_made w n (by omega))
    have HZ := Lib.hid (show (List.replicate n false) = (partsP G n 0).1 from rfl)
    go_enter Tryz.func90, Tryz.ntmps90
    go_wp2_with fail
    refine (icm_w B _ m true HC.out _ HR.out HF.out).mono ?_
    rintro e w1 ⟨rfl, hb1⟩
    have HB1 := Lib.hid hb1
    have hs1 := hb1.size
    have hmk := HMK.out w1
    have hsm := HSM.out w1
    have hb2 := hb1.alloc hs1 (.cells (boolsV (List.replicate n false)).toArray 4)
    have hsz2 : (w1.alloc (.cells (boolsV (List.replicate n false)).toArray 4)).heap.size = w1.heap.size + 1 := by simp
    rw [HZ.out] at hmk hsm hb2 hsz2
    generalize w1.alloc (.cells (boolsV (partsP G n 0).1).toArray 4) = w2 at *
    generalize hgg : w1.heap.size = g at *
    have HB2 := Lib.hid hb2
    have HS2 := Lib.hid hsm
    clear hb1 hb2 hsm
    go_wp2_with fail
    clear hmk
    go_loopw [3, 14] (fun o i wr => ∃ (k : Nat) (wq : World), wq = wr ∧ k ≤ n ∧ i = .int .i64 k ∧ MatI w2.heap.size wq.heap.size wq o ((partsP G n k).2.map intL) ∧ SeenI g wq g n (partsP G n k).1 ∧ Below w.heap.size w wq ∧ w2.heap.size ≤ wq.heap.size) (fun _ i _ => n - (intOf i).toNat)
    case atStart => exact ⟨0, _, rfl, Nat.zero_le _, rfl, MatI.nil _ _ _, HS2.out, HB2.out, Nat.le_refl _⟩
    case round =>
      obtain ⟨k, wq, rfl, hk, rfl, hM, hS, hb, hsz⟩ := hrel
      have HM := Lib.hid hM; clear hM
      have HS := Lib.hid hS; clear hS
      have HB := Lib.hid hb
      have hsq := hb.size
      clear hb
      by_cases hlt : k < n
      · have hsc := HS.out.cell hlt
        by_cases hse : (partsP G n k).1.getD k false = true
        · have HST := Lib.hid (partsP_yes hse)
          rw [hse] at hsc
          clear hse
          go_wp2_with fail
          exact ⟨⟨k + 1, _, rfl, by omega, by go_num, by rw [HST.out]; exact HM.out, by rw [HST.out]; exact HS.out, HB.out, hsz⟩, by simp [intOf]; omega⟩
        · have hse' : (partsP G n k).1.getD k false = false := by simpa using hse
          have HST := Lib.hid (partsP_no hse')
          rw [hse'] at hsc
          have hpm := HOK.out.2.2.1 k hlt hse'
          have HPM := Lib.hid hpm
          have hpl := partsP_len G n k
          clear hse hse' hpm
          go_wp2_with fail
          refine (HPA.out g k g (partsP G n k).1 wq (HR.out.below HB.out hB) (Nat.le_trans hB hsq) (by omega) HF.out HI.out hlt HS.out HPM.out).mono ?_
          rintro e w3 ⟨x, rfl, hx, hS3, hg3⟩
          have HM3 := Lib.hid (HM.out.keep HS.out hg3)
          have HB3 := Lib.hid (HB.out.grown hg3 hsq (fun q hq => by injection hq with hq; omega))
          have HS3 := Lib.hid hS3
          have hs3 := hg3.size
          obtain ⟨xa, xcap, rfl⟩ := hx.slice
          have HX := Lib.hid hx
          have hml : ((partsP G n k).2.map intL).length ≤ 1048576 := by rw [List.length_map]; omega
          have HML := Lib.hid hml; clear hml hx hS3 hg3
          go_wp2_with (at_builtin; go_must (refine append_row HM3.out HX.out hsz hs3 rfl rfl rfl rfl HML.out ?_; intro v' w4 hm4 hb4 hz4))
          have hm4' : MatI w2.heap.size w4.heap.size w4 v' ((partsP G n (k + 1)).2.map intL) := by
            rw [HST.out, List.map_append]; exact hm4
          have HM4 := Lib.hid hm4'
          have hs4' : SeenI g w4 g n (partsP G n (k + 1)).1 := by
            rw [HST.out]; exact HS3.out.below (hb4 _ w2.heap.size (Nat.le_refl _) (Below.refl _ _)) (by omega)
          have HS4 := Lib.hid hs4'
          have HB4 := Lib.hid (hb4 w w.heap.size (by omega) HB3.out)
          clear hm4 hm4' hs4' hb4
          go_wp2_with fail
          exact ⟨⟨k + 1, _, rfl, by omega, by go_num, HM4.out, HS4.out, HB4.out, by omega⟩, by simp [intOf]; omega⟩
      · obtain rfl : n = k := by omega
        go_wp2_with fail
        go_ret
        exact ⟨_, rfl, by rw [HV.out, ← HOK.out.1]; exact ⟨HM.out.mono (by omega) (Nat.le_refl _), Nat.le_refl _⟩, HB.out⟩
  · have HC := Lib.hid (isB_no hI)
    have HV := Lib.hid (partsV_no hI)
    clear hI
    generalize partsV m = R at *
    generalize hn : m.length = n at *
    unfold maxLen at hl
    have HN := Lib.hid hn; clear hn
    go_enter Tryz.func90, Tryz.ntmps90
    go_wp2_with fail
    refine (icm_w B _ m false HC.out _ HR.out HF.out).mono ?_
    rintro e w1 ⟨rfl, hb1⟩
    have HB1 := Lib.hid hb1; clear hb1
    go_wp2_with fail
    go_ret
    exact makesM_nil HV.out (MatI.nil _ _ _) HB1.out
end Go.Proofs.YtcmnkhblnlmfpaaGreatDoor
