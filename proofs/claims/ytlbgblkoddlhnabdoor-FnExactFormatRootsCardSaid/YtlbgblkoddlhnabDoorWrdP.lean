/-
  Words: what the functions of chapter 5 answer (no walk here).
-/
import Derived.Test.YtlbgblkoddlhnabDoorIsC
import Derived.Test.YtlbgblkoddlhnabDoorBond
namespace Go.Proofs.YtlbgblkoddlhnabDoor
open Go.RowKit

/-! ### Words over points -/
def LetTo (n : Nat) (l : List Int) (k : Nat) : Prop := ∀ j, j < k → 0 ≤ l.getD j 0 ∧ l.getD j 0 ≤ (n : Int) - 1
theorem letTo_zero (n : Nat) (l : List Int) : LetTo n l 0 := fun _ hj => absurd hj (Nat.not_lt_zero _)
theorem letTo_step {n k : Nat} {l : List Int} (h : LetTo n l k) (hk : 0 ≤ l.getD k 0 ∧ l.getD k 0 ≤ (n : Int) - 1) : LetTo n l (k + 1) := fun j hj => by
  rcases Nat.lt_or_ge j k with h' | h'
  · exact h j h'
  · obtain rfl : j = k := by omega
    exact hk
def IsW (c : List (List Int)) (l : List Int) : Prop := LetTo c.length l l.length ∧ IsC c ∧ l.length ≤ 15
open Classical in
noncomputable def wordB (c : List (List Int)) (l : List Int) : Bool := decide (IsW c l)
open Classical in
theorem wordB_yes {c : List (List Int)} {l : List Int} (h : IsW c l) : wordB c l = true := decide_eq_true h
open Classical in
theorem wordB_no {c : List (List Int)} {l : List Int} (h : ¬ IsW c l) : wordB c l = false := decide_eq_false h
theorem isW_bad {c : List (List Int)} {l : List Int} {k : Nat} (hk : k < l.length) (h : ¬ (0 ≤ l.getD k 0 ∧ l.getD k 0 ≤ (c.length : Int) - 1)) : ¬ IsW c l := fun h' => h (h'.1 k hk)

/-! ### Which of two words comes first -/
def cmpL : List Int → List Int → Int
  | x :: a, y :: b => if x < y then -1 else if y < x then 1 else cmpL a b
  | _, _ => 0
def cmpW (a b : List Int) : Int := if a.length < b.length then -1 else if b.length < a.length then 1 else cmpL a b
theorem cmpL_same (a : List Int) : ∀ b, cmpL (a ++ b) (a ++ b) = cmpL b b := by
  induction a with
  | nil => intro b; rfl
  | cons x a ih => intro b; simp [cmpL, ih]
theorem cmpL_refl (a : List Int) : cmpL a a = 0 := by
  induction a with
  | nil => rfl
  | cons x a ih => simp [cmpL, ih]
theorem cmpL_front {p a b : List Int} : cmpL (p ++ a) (p ++ b) = cmpL a b := by
  induction p with
  | nil => rfl
  | cons x p ih => simp [cmpL, ih]
theorem cmpL_at {a b : List Int} {k : Nat} (ha : k < a.length) (hb : k < b.length) (he : a.take k = b.take k) (hne : a.getD k 0 ≠ b.getD k 0) : cmpL a b = if a.getD k 0 < b.getD k 0 then -1 else 1 := by
  have e1 : a.getD k 0 = a[k] := by simp [List.getD, ha]
  have e2 : b.getD k 0 = b[k] := by simp [List.getD, hb]
  rw [e1, e2] at hne ⊢
  conv => lhs; rw [← List.take_append_drop k a, ← List.take_append_drop k b, he, cmpL_front, List.drop_eq_getElem_cons ha, List.drop_eq_getElem_cons hb]
  unfold cmpL
  by_cases h1 : a[k] < b[k]
  · rw [if_pos h1, if_pos h1]
  · rw [if_neg h1, if_neg h1, if_pos (by omega)]
theorem cmpW_lt {a b : List Int} (h : a.length < b.length) : cmpW a b = -1 := if_pos h
theorem cmpW_gt {a b : List Int} (h : b.length < a.length) : cmpW a b = 1 := by unfold cmpW; rw [if_neg (by omega), if_pos h]
theorem cmpW_eq {a b : List Int} (h : a.length = b.length) : cmpW a b = cmpL a b := by unfold cmpW; rw [if_neg (by omega), if_neg (by omega)]
theorem cmpW_at {a b : List Int} {k : Nat} (hl : a.length = b.length) (hk : k < a.length) (he : a.take k = b.take k) (hne : a.getD k 0 ≠ b.getD k 0) : cmpW a b = if a.getD k 0 < b.getD k 0 then -1 else 1 := by
  rw [cmpW_eq hl]; exact cmpL_at hk (by omega) he hne
theorem cmpL_zero {a : List Int} : ∀ {b}, a.length = b.length → cmpL a b = 0 → a = b := by
  induction a with
  | nil => intro b h _; cases b with
    | nil => rfl
    | cons y b => simp at h
  | cons x a ih =>
    intro b h hc
    cases b with
    | nil => simp at h
    | cons y b =>
      unfold cmpL at hc
      by_cases h1 : x < y
      · rw [if_pos h1] at hc; omega
      · rw [if_neg h1] at hc
        by_cases h2 : y < x
        · rw [if_pos h2] at hc; omega
        · rw [if_neg h2] at hc
          rw [ih (by simpa using h) hc, show x = y by omega]
theorem cmpW_zero {a b : List Int} : cmpW a b = 0 ↔ a = b := by
  constructor
  · intro h
    rcases Nat.lt_trichotomy a.length b.length with h1 | h1 | h1
    · rw [cmpW_lt h1] at h; omega
    · rw [cmpW_eq h1] at h; exact cmpL_zero h1 h
    · rw [cmpW_gt h1] at h; omega
  · rintro rfl
    rw [cmpW_eq rfl, cmpL_refl]
theorem cmpL_neg (a : List Int) : ∀ b, cmpL b a = - cmpL a b := by
  induction a with
  | nil => intro b; cases b <;> rfl
  | cons x a ih =>
    intro b
    cases b with
    | nil => rfl
    | cons y b =>
      unfold cmpL
      by_cases h1 : x < y
      · rw [if_pos h1, if_neg (by omega), if_pos h1]; rfl
      · by_cases h2 : y < x
        · rw [if_pos h2, if_neg h1, if_pos h2]
        · rw [if_neg h1, if_neg h2, if_neg h2, if_neg h1, ih]
theorem cmpW_neg (a b : List Int) : cmpW b a = - cmpW a b := by
  rcases Nat.lt_trichotomy a.length b.length with h1 | h1 | h1
  · rw [cmpW_lt h1, cmpW_gt h1]; rfl
  · rw [cmpW_eq h1, cmpW_eq h1.symm, cmpL_neg]
  · rw [cmpW_lt h1, cmpW_gt h1]

/-! ### The letters that occur -/
def putS (x : Int) (s : List Int × Bool) (y : Int) : List Int × Bool :=
  let p := s.2 || decide (y = x)
  if decide (x < y) && !p then (s.1 ++ [x, y], true) else (s.1 ++ [y], p)
def putP (x : Int) (l : List Int) : List Int × Bool := l.foldl (putS x) ([], false)
def putL (l : List Int) (x : Int) : List Int := if (putP x l).2 then (putP x l).1 else (putP x l).1 ++ [x]
theorem putP_snoc (x : Int) (l : List Int) (y : Int) : putP x (l ++ [y]) = putS x (putP x l) y := by simp [putP]
theorem putP_take {x : Int} {l : List Int} {k : Nat} (h : k < l.length) : putP x (l.take (k + 1)) = putS x (putP x (l.take k)) (l.getD k 0) := by
  rw [List.take_succ_eq_append_getElem h, putP_snoc]; simp [List.getD, h]
theorem putS_len (x : Int) (s : List Int × Bool) (y : Int) : (putS x s y).1.length + (if (putS x s y).2 then 0 else 1) ≤ s.1.length + 1 + (if s.2 then 0 else 1) := by
  unfold putS
  simp only []
  split
  · rename_i h
    simp only [Bool.and_eq_true, Bool.not_eq_true', Bool.or_eq_false_iff] at h
    rw [h.2.1]; simp
  · cases s.2 <;> simp
    split <;> omega
theorem putP_len (x : Int) (l : List Int) : (putP x l).1.length + (if (putP x l).2 then 0 else 1) ≤ l.length + 1 := by
  have : ∀ (l : List Int) (s : List Int × Bool), (l.foldl (putS x) s).1.length + (if (l.foldl (putS x) s).2 then 0 else 1) ≤ s.1.length + l.length + (if s.2 then 0 else 1) := by
    intro l
    induction l with
    | nil => intro s; exact Nat.le_refl _
    | cons y l ih =>
      intro s
      rw [List.foldl_cons]
      refine Nat.le_trans (ih _) ?_
      have := putS_len x s y
      simp only [List.length_cons]
      omega
  have h := this l ([], false)
  simp at h
  unfold putP
  omega
theorem putL_len (l : List Int) (x : Int) : (putL l x).length ≤ l.length + 1 := by
  have := putP_len x l
  unfold putL
  split
  · rename_i h; rw [h] at this; simp at this; exact this
  · rename_i h
    have h' : (putP x l).2 = false := by simpa using h
    rw [h'] at this; simp at this ⊢; omega
def suppL (w : List Int) : List Int := w.foldl putL []
theorem suppL_take {w : List Int} {k : Nat} (h : k < w.length) : suppL (w.take (k + 1)) = putL (suppL (w.take k)) (w.getD k 0) := by
  rw [List.take_succ_eq_append_getElem h]
  unfold suppL
  rw [List.foldl_append]
  simp [List.getD, h]
theorem suppL_len (w : List Int) : (suppL w).length ≤ w.length := by
  have : ∀ (w l : List Int), (w.foldl putL l).length ≤ l.length + w.length := by
    intro w
    induction w with
    | nil => intro l; simp
    | cons x w ih =>
      intro l
      rw [List.foldl_cons]
      have := putL_len l x
      refine Nat.le_trans (ih _) ?_
      simp only [List.length_cons]
      omega
  simpa [suppL] using this w []

/-! ### Letters in turn -/
def altK (i j : Int) (k : Nat) : List Int := (List.range k).map fun t => if t % 2 = 0 then i else j
theorem altK_len (i j : Int) (k : Nat) : (altK i j k).length = k := by simp [altK]
theorem altK_even {i j : Int} {k : Nat} (h : k % 2 = 0) : altK i j k ++ [i] = altK i j (k + 1) := by simp [altK, List.range_succ, h]
theorem altK_odd {i j : Int} {k : Nat} (h : ¬ k % 2 = 0) : altK i j k ++ [j] = altK i j (k + 1) := by simp [altK, List.range_succ, h]
def altL (i j n : Int) : List Int := altK i j (min n.toNat 15)

/-! ### Texts -/
def letC (x : Int) : UInt8 := UInt8.ofNat (49 + x.toNat)
def fmtTo (w : List Int) (k : Nat) : List UInt8 := (w.take k).map letC
theorem fmtTo_step {w : List Int} {k : Nat} (h : k < w.length) : fmtTo w k ++ [letC (w.getD k 0)] = fmtTo w (k + 1) := by
  unfold fmtTo
  rw [List.take_succ_eq_append_getElem h, List.map_append]; simp [List.getD, h]
theorem fmtTo_len (w : List Int) (k : Nat) : (fmtTo w k).length ≤ k := by simp [fmtTo]; omega
open Classical in
noncomputable def fmtW (w : List Int) : List UInt8 := if LetTo 4 w w.length then (if w = [] then [101] else w.map letC) else []
theorem fmtW_bad {w : List Int} (h : ¬ LetTo 4 w w.length) : fmtW w = [] := if_neg h
theorem fmtW_nil : fmtW [] = [101] := by unfold fmtW; rw [if_pos (show LetTo 4 [] ([] : List Int).length from letTo_zero _ _), if_pos rfl]
theorem fmtW_full {w : List Int} (h : LetTo 4 w w.length) (hne : w ≠ []) : fmtW w = w.map letC := by unfold fmtW; rw [if_pos h, if_neg hne]
def letN (b : UInt8) : Int := (b.toNat : Int) - 49
def parW (l : List UInt8) : List Int := if l = [101] then [] else l.map letN
def PwOk (c : List (List Int)) (l : List UInt8) : Prop := l ≠ [] ∧ IsW c (parW l)
open Classical in
noncomputable def pwB (c : List (List Int)) (l : List UInt8) : Bool := decide (PwOk c l)
open Classical in
theorem pwB_yes {c : List (List Int)} {l : List UInt8} (h : PwOk c l) : pwB c l = true := decide_eq_true h
open Classical in
theorem pwB_no {c : List (List Int)} {l : List UInt8} (h : ¬ PwOk c l) : pwB c l = false := decide_eq_false h
noncomputable def pwL (c : List (List Int)) (l : List UInt8) : List Int := if pwB c l = true then parW l else []
theorem pwL_yes {c : List (List Int)} {l : List UInt8} (h : PwOk c l) : pwL c l = parW l := if_pos (pwB_yes h)
theorem pwL_no {c : List (List Int)} {l : List UInt8} (h : ¬ PwOk c l) : pwL c l = [] := by unfold pwL; rw [pwB_no h]; rfl
end Go.Proofs.YtlbgblkoddlhnabDoor
