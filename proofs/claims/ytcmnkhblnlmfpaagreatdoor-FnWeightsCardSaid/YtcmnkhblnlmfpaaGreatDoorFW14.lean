/-
  Words: what the functions of chapter 5 answer (no walk here).
  Weights: what the functions of chapter 6 answer (no walk here).
  Weights: which vectors are weights (no walk here).
  FormatInt of the model and of the program: what each call returns.
  FormatInt of the program: what the call returns.
-/
import Derived.Test.YtcmnkhblnlmfpaaGreatDoorFW03
import Derived.IntWalk
import Derived.Lib.ItoaNum
import Derived.Test.YtcmnkhblnlmfpaaGreatDoorFW01
import Derived.Test.YtcmnkhblnlmfpaaGreatDoorFW02
import Derived.Test.YtcmnkhblnlmfpaaGreatDoorShelfD
import Derived.Test.YtcmnkhblnlmfpaaGreatDoorShelfJ
namespace Go.Proofs.YtcmnkhblnlmfpaaGreatDoor
open Go.RowKit

/-! ### Words over points -/
def LetTo (n : Nat) (l : List Int) (k : Nat) : Prop := ∀ j, j < k → 0 ≤ l.getD j 0 ∧ l.getD j 0 ≤ (n : Int) - 1
theorem letTo_zero (n : Nat) (l : List Int) : LetTo n l 0 := fun _ hj => absurd hj (Nat.not_lt_zero _)
theorem letTo_step {n k : Nat} {l : List Int} (h : LetTo n l k) (hk : 0 ≤ l.getD k 0 ∧ l.getD k 0 ≤ (n : Int) - 1) : LetTo n l (k + 1) := fun j hj => by
  rcases Nat.lt_or_ge j k with h' | h'
  · exact h j h'
  · obtain rfl : j = k := by omega
    exact hk
def IsW (c : List (List Int)) (l : List Int) : Prop := LetTo c.length l l.length ∧ IsC c ∧ l.length ≤ 15
open Classical in
noncomputable def wordB (c : List (List Int)) (l : List Int) : Bool := decide (IsW c l)
open Classical in
theorem wordB_yes {c : List (List Int)} {l : List Int} (h : IsW c l) : wordB c l = true := decide_eq_true h
open Classical in
theorem wordB_no {c : List (List Int)} {l : List Int} (h : ¬ IsW c l) : wordB c l = false := decide_eq_false h
theorem isW_bad {c : List (List Int)} {l : List Int} {k : Nat} (hk : k < l.length) (h : ¬ (0 ≤ l.getD k 0 ∧ l.getD k 0 ≤ (c.length : Int) - 1)) : ¬ IsW c l := fun h' => h (h'.1 k hk)

/-! ### Which of two words comes first -/
def cmpL : List Int → List Int → Int
  | x :: a, y :: b => if x < y then -1 else if y < x then 1 else cmpL a b
  | _, _ => 0
def cmpW (a b : List Int) : Int := if a.length < b.length then -1 else if b.length < a.length then 1 else cmpL a b
theorem cmpL_same (a : List Int) : ∀ b, cmpL (a ++ b) (a ++ b) = cmpL b b := by
  induction a with
  | nil => intro b; rfl
  | cons x a ih => intro b; simp [cmpL, ih]
theorem cmpL_refl (a : List Int) : cmpL a a = 0 := by
  induction a with
  | nil => rfl
  | cons x a ih => simp [cmpL, ih]
theorem cmpL_front {p a b : List Int} : cmpL (p ++ a) (p ++ b) = cmpL a b := by
  induction p with
  | nil => rfl
  | cons x p ih => simp [cmpL, ih]
theorem cmpL_at {a b : List Int} {k : Nat} (ha : k < a.length) (hb : k < b.length) (he : a.take k = b.take k) (hne : a.getD k 0 ≠ b.getD k 0) : cmpL a b = if a.getD k 0 < b.getD k 0 then -1 else 1 := by
  have e1 : a.getD k 0 = a[k] := by simp [List.getD, ha]
  have e2 : b.getD k 0 = b[k] := by simp [List.getD, hb]
  rw [e1, e2] at hne ⊢
  conv => lhs; rw [← List.take_append_drop k a, ← List.take_append_drop k b, he, cmpL_front, List.drop_eq_getElem_cons ha, List.drop_eq_getElem_cons hb]
  unfold cmpL
  by_cases h1 : a[k] < b[k]
  · rw [if_pos h1, if_pos h1]
  · rw [if_neg h1, if_neg h1, if_pos (by omega)]
theorem cmpW_lt {a b : List Int} (h : a.length < b.length) : cmpW a b = -1 := if_pos h
theorem cmpW_gt {a b : List Int} (h : b.length < a.length) : cmpW a b = 1 := by unfold cmpW; rw [if_neg (by omega), if_pos h]
theorem cmpW_eq {a b : List Int} (h : a.length = b.length) : cmpW a b = cmpL a b := by unfold cmpW; rw [if_neg (by omega), if_neg (by omega)]
theorem cmpW_at {a b : List Int} {k : Nat} (hl : a.length = b.length) (hk : k < a.length) (he : a.take k = b.take k) (hne : a.getD k 0 ≠ b.getD k 0) : cmpW a b = if a.getD k 0 < b.getD k 0 then -1 else 1 := by
  rw [cmpW_eq hl]; exact cmpL_at hk (by omega) he hne
theorem cmpL_zero {a : List Int} : ∀ {b}, a.length = b.length → cmpL a b = 0 → a = b := by
  induction a with
  | nil => intro b h _; cases b with
    | nil => rfl
    | cons y b => simp at h
  | cons x a ih =>
    intro b h hc
    cases b with
    | nil => simp at h
    | cons y b =>
      unfold cmpL at hc
      by_cases h1 : x < y
      · rw [if_pos h1] at hc; omega
      · rw [if_neg h1] at hc
        by_cases h2 : y < x
        · rw [if_pos h2] at hc; omega
        · rw [if_neg h2] at hc
          rw [ih (by simpa using h) hc, show x = y by omega]
theorem cmpW_zero {a b : List Int} : cmpW a b = 0 ↔ a = b := by
  constructor
  · intro h
    rcases Nat.lt_trichotomy a.length b.length with h1 | h1 | h1
    · rw [cmpW_lt h1] at h; omega
    · rw [cmpW_eq h1] at h; exact cmpL_zero h1 h
    · rw [cmpW_gt h1] at h; omega
  · rintro rfl
    rw [cmpW_eq rfl, cmpL_refl]
theorem cmpL_neg (a : List Int) : ∀ b, cmpL b a = - cmpL a b := by
  induction a with
  | nil => intro b; cases b <;> rfl
  | cons x a ih =>
    intro b
    cases b with
    | nil => rfl
    | cons y b =>
      unfold cmpL
      by_cases h1 : x < y
      · rw [if_pos h1, if_neg (by omega), if_pos h1]; rfl
      · by_cases h2 : y < x
        · rw [if_pos h2, if_neg h1, if_pos h2]
        · rw [if_neg h1, if_neg h2, if_neg h2, if_neg h1, ih]
theorem cmpW_neg (a b : List Int) : cmpW b a = - cmpW a b := by
  rcases Nat.lt_trichotomy a.length b.length with h1 | h1 | h1
  · rw [cmpW_lt h1, cmpW_gt h1]; rfl
  · rw [cmpW_eq h1, cmpW_eq h1.symm, cmpL_neg]
  · rw [cmpW_lt h1, cmpW_gt h1]

/-! ### The letters that occur -/
def putS (x : Int) (s : List Int × Bool) (y : Int) : List Int × Bool :=
  let p := s.2 || decide (y = x)
  if decide (x < y) && !p then (s.1 ++ [x, y], true) else (s.1 ++ [y], p)
def putP (x : Int) (l : List Int) : List Int × Bool := l.foldl (putS x) ([], false)
def putL (l : List Int) (x : Int) : List Int := if (putP x l).2 then (putP x l).1 else (putP x l).1 ++ [x]
theorem putP_snoc (x : Int) (l : List Int) (y : Int) : putP x (l ++ [y]) = putS x (putP x l) y := by simp [putP]
theorem putP_take {x : Int} {l : List Int} {k : Nat} (h : k < l.length) : putP x (l.take (k + 1)) = putS x (putP x (l.take k)) (l.getD k 0) := by
  rw [List.take_succ_eq_append_getElem h, putP_snoc]; simp [List.getD, h]
theorem putS_len (x : Int) (s : List Int × Bool) (y : Int) : (putS x s y).1.length + (if (putS x s y).2 then 0 else 1) ≤ s.1.length + 1 + (if s.2 then 0 else 1) := by
  unfold putS
  simp only []
  split
  · rename_i h
    simp only [Bool.and_eq_true, Bool.not_eq_true', Bool.or_eq_false_iff] at h
    rw [h.2.1]; simp
  · cases s.2 <;> simp
    split <;> omega
theorem putP_len (x : Int) (l : List Int) : (putP x l).1.length + (if (putP x l).2 then 0 else 1) ≤ l.length + 1 := by
  have : ∀ (l : List Int) (s : List Int × Bool), (l.foldl (putS x) s).1.length + (if (l.foldl (putS x) s).2 then 0 else 1) ≤ s.1.length + l.length + (if s.2 then 0 else 1) := by
    intro l
    induction l with
    | nil => intro s; exact Nat.le_refl _
    | cons y l ih =>
      intro s
      rw [List.foldl_cons]
      refine Nat.le_trans (ih _) ?_
      have := putS_len x s y
      simp only [List.length_cons]
      omega
  have h := this l ([], false)
  simp at h
  unfold putP
  omega
theorem putL_len (l : List Int) (x : Int) : (putL l x).length ≤ l.length + 1 := by
  have := putP_len x l
  unfold putL
  split
  · rename_i h; rw [h] at this; simp at this; exact this
  · rename_i h
    have h' : (putP x l).2 = false := by simpa using h
    rw [h'] at this; simp at this ⊢; omega
def suppL (w : List Int) : List Int := w.foldl putL []
theorem suppL_take {w : List Int} {k : Nat} (h : k < w.length) : suppL (w.take (k + 1)) = putL (suppL (w.take k)) (w.getD k 0) := by
  rw [List.take_succ_eq_append_getElem h]
  unfold suppL
  rw [List.foldl_append]
  simp [List.getD, h]
theorem suppL_len (w : List Int) : (suppL w).length ≤ w.length := by
  have : ∀ (w l : List Int), (w.foldl putL l).length ≤ l.length + w.length := by
    intro w
    induction w with
    | nil => intro l; simp
    | cons x w ih =>
      intro l
      rw [List.foldl_cons]
      have := putL_len l x
      refine Nat.le_trans (ih _) ?_
      simp only [List.length_cons]
      omega
  simpa [suppL] using this w []

/-! ### Letters in turn -/
def altK (i j : Int) (k : Nat) : List Int := (List.range k).map fun t => if t % 2 = 0 then i else j
theorem altK_len (i j : Int) (k : Nat) : (altK i j k).length = k := by simp [altK]
theorem altK_even {i j : Int} {k : Nat} (h : k % 2 = 0) : altK i j k ++ [i] = altK i j (k + 1) := by simp [altK, List.range_succ, h]
theorem altK_odd {i j : Int} {k : Nat} (h : ¬ k % 2 = 0) : altK i j k ++ [j] = altK i j (k + 1) := by simp [altK, List.range_succ, h]
def altL (i j n : Int) : List Int := altK i j (min n.toNat 15)

/-! ### Texts -/
def letC (x : Int) : UInt8 := UInt8.ofNat (49 + x.toNat)
def fmtTo (w : List Int) (k : Nat) : List UInt8 := (w.take k).map letC
theorem fmtTo_step {w : List Int} {k : Nat} (h : k < w.length) : fmtTo w k ++ [letC (w.getD k 0)] = fmtTo w (k + 1) := by
  unfold fmtTo
  rw [List.take_succ_eq_append_getElem h, List.map_append]; simp [List.getD, h]
theorem fmtTo_len (w : List Int) (k : Nat) : (fmtTo w k).length ≤ k := by simp [fmtTo]; omega
open Classical in
noncomputable def fmtW (w : List Int) : List UInt8 := if LetTo 4 w w.length then (if w = [] then [101] else w.map letC) else []
theorem fmtW_bad {w : List Int} (h : ¬ LetTo 4 w w.length) : fmtW w = [] := if_neg h
theorem fmtW_nil : fmtW [] = [101] := by unfold fmtW; rw [if_pos (show LetTo 4 [] ([] : List Int).length from letTo_zero _ _), if_pos rfl]
theorem fmtW_full {w : List Int} (h : LetTo 4 w w.length) (hne : w ≠ []) : fmtW w = w.map letC := by unfold fmtW; rw [if_pos h, if_neg hne]
def letN (b : UInt8) : Int := (b.toNat : Int) - 49
def parW (l : List UInt8) : List Int := if l = [101] then [] else l.map letN
def PwOk (c : List (List Int)) (l : List UInt8) : Prop := l ≠ [] ∧ IsW c (parW l)
open Classical in
noncomputable def pwB (c : List (List Int)) (l : List UInt8) : Bool := decide (PwOk c l)
open Classical in
theorem pwB_yes {c : List (List Int)} {l : List UInt8} (h : PwOk c l) : pwB c l = true := decide_eq_true h
open Classical in
theorem pwB_no {c : List (List Int)} {l : List UInt8} (h : ¬ PwOk c l) : pwB c l = false := decide_eq_false h
noncomputable def pwL (c : List (List Int)) (l : List UInt8) : List Int := if pwB c l = true then parW l else []
theorem pwL_yes {c : List (List Int)} {l : List UInt8} (h : PwOk c l) : pwL c l = parW l := if_pos (pwB_yes h)
theorem pwL_no {c : List (List Int)} {l : List UInt8} (h : ¬ PwOk c l) : pwL c l = [] := by unfold pwL; rw [pwB_no h]; rfl
end Go.Proofs.YtcmnkhblnlmfpaaGreatDoor
namespace Go.Proofs.YtcmnkhblnlmfpaaGreatDoor
open Go.RowKit

def mulW (x y : Int) : Int := wrap64 (x * y)
def subW (x y : Int) : Int := wrap64 (x - y)
def addW (x y : Int) : Int := wrap64 (x + y)
theorem wrapk (x : Int) : IntKind.i64.wrap x = wrap64 x := by rw [IntKind.wrap_i64, wrap64]
/-! ### A reflection of a weight -/
def reflE (m : List (List Int)) (i : Nat) (l : List Int) (k : Nat) : Int := subW (l.getD k 0) (mulW (l.getD i 0) (entry m k i))
def reflK (m : List (List Int)) (i : Nat) (l : List Int) (k : Nat) : List Int := (List.range k).map (reflE m i l)
def reflL (m : List (List Int)) (i : Nat) (l : List Int) : List Int := reflK m i l l.length
theorem reflK_len (m : List (List Int)) (i : Nat) (l : List Int) (k : Nat) : (reflK m i l k).length = k := by simp [reflK]
theorem reflL_len (m : List (List Int)) (i : Nat) (l : List Int) : (reflL m i l).length = l.length := reflK_len _ _ _ _
theorem reflK_step (m : List (List Int)) (i : Nat) (l : List Int) (k : Nat) : reflK m i l k ++ [reflE m i l k] = reflK m i l (k + 1) := by simp [reflK, List.range_succ]
def RefOk (m : List (List Int)) (i : Int) (l : List Int) : Prop := IsC m ∧ l.length = m.length ∧ (0 ≤ i ∧ i ≤ (m.length : Int) - 1)
open Classical in
noncomputable def refwL (m : List (List Int)) (i : Int) (l : List Int) : List Int := if RefOk m i l then reflL m i.toNat l else l
theorem refwL_yes {m : List (List Int)} {i : Int} {l : List Int} (h : RefOk m i l) : refwL m i l = reflL m i.toNat l := if_pos h
theorem refwL_no {m : List (List Int)} {i : Int} {l : List Int} (h : ¬ RefOk m i l) : refwL m i l = l := if_neg h
theorem refwL_len (m : List (List Int)) (i : Int) (l : List Int) : (refwL m i l).length = l.length := by
  by_cases h : RefOk m i l
  · rw [refwL_yes h, reflL_len]
  · rw [refwL_no h]
/-! ### A word that acts -/
def actW (m : List (List Int)) (ws : List Int) (l : List Int) : List Int := ws.foldr (fun i l => reflL m i.toNat l) l
theorem actW_len (m : List (List Int)) (ws l : List Int) : (actW m ws l).length = l.length := by
  induction ws with
  | nil => rfl
  | cons i ws ih => simp only [actW, List.foldr_cons] at ih ⊢; rw [reflL_len]; exact ih
theorem actW_step {m : List (List Int)} {ws l : List Int} {k : Nat} (h : k < ws.length) : reflL m (ws.getD k 0).toNat (actW m (ws.drop (k + 1)) l) = actW m (ws.drop k) l := by
  conv => rhs; rw [List.drop_eq_getElem_cons h]
  have e : ws.getD k 0 = ws[k] := by simp [List.getD, h]
  unfold actW
  rw [List.foldr_cons, e]
def ActOk (m : List (List Int)) (ws l : List Int) : Prop := IsW m ws ∧ l.length = m.length
open Classical in
noncomputable def actL (m : List (List Int)) (ws l : List Int) : List Int := if ActOk m ws l then actW m ws l else l
theorem actL_yes {m : List (List Int)} {ws l : List Int} (h : ActOk m ws l) : actL m ws l = actW m ws l := if_pos h
theorem actL_no {m : List (List Int)} {ws l : List Int} (h : ¬ ActOk m ws l) : actL m ws l = l := if_neg h
theorem actL_len (m : List (List Int)) (ws l : List Int) : (actL m ws l).length = l.length := by
  by_cases h : ActOk m ws l
  · rw [actL_yes h, actW_len]
  · rw [actL_no h]
/-! ### Ones, sums, columns -/
def onesR (n : Nat) : List Int := List.replicate n 1
theorem onesR_step (n : Nat) : onesR n ++ [1] = onesR (n + 1) := by simp [onesR, List.replicate_succ']
open Classical in
noncomputable def rhoL (m : List (List Int)) : List Int := if IsC m then onesR m.length else []
theorem rhoL_yes {m : List (List Int)} (h : IsC m) : rhoL m = onesR m.length := if_pos h
theorem rhoL_no {m : List (List Int)} (h : ¬ IsC m) : rhoL m = [] := if_neg h
theorem rhoL_len (m : List (List Int)) : (rhoL m).length ≤ 4 := by
  by_cases h : IsC m
  · rw [rhoL_yes h]; simp [onesR]; exact h.2.2.2
  · rw [rhoL_no h]; simp
def addK (a b : List Int) (k : Nat) : List Int := (List.range k).map fun j => addW (a.getD j 0) (b.getD j 0)
theorem addK_step (a b : List Int) (k : Nat) : addK a b k ++ [addW (a.getD k 0) (b.getD k 0)] = addK a b (k + 1) := by simp [addK, List.range_succ]
theorem addK_len (a b : List Int) (k : Nat) : (addK a b k).length = k := by simp [addK]
def addL (a b : List Int) : List Int := addK a b (min a.length b.length)
theorem addL_len (a b : List Int) : (addL a b).length ≤ a.length := by unfold addL; rw [addK_len]; exact Nat.min_le_left _ _
def colK (m : List (List Int)) (i k : Nat) : List Int := (List.range k).map fun j => entry m j i
theorem colK_step (m : List (List Int)) (i k : Nat) : colK m i k ++ [entry m k i] = colK m i (k + 1) := by simp [colK, List.range_succ]
theorem colK_len (m : List (List Int)) (i k : Nat) : (colK m i k).length = k := by simp [colK]
def PtOk (m : List (List Int)) (i : Int) : Prop := IsC m ∧ (0 ≤ i ∧ i ≤ (m.length : Int) - 1)
open Classical in
noncomputable def srwL (m : List (List Int)) (i : Int) : List Int := if PtOk m i then colK m i.toNat m.length else []
theorem srwL_yes {m : List (List Int)} {i : Int} (h : PtOk m i) : srwL m i = colK m i.toNat m.length := if_pos h
theorem srwL_no {m : List (List Int)} {i : Int} (h : ¬ PtOk m i) : srwL m i = [] := if_neg h
theorem srwL_len (m : List (List Int)) (i : Int) : (srwL m i).length ≤ 4 := by
  by_cases h : PtOk m i
  · rw [srwL_yes h, colK_len]; exact h.1.2.2.2
  · rw [srwL_no h]; simp
end Go.Proofs.YtcmnkhblnlmfpaaGreatDoor
namespace Go.Proofs.YtcmnkhblnlmfpaaGreatDoor
open Go.RowKit

def WtTo (l : List Int) (k : Nat) : Prop := ∀ j, j < k → -1000 ≤ l.getD j 0 ∧ l.getD j 0 ≤ 1000
theorem wtTo_zero (l : List Int) : WtTo l 0 := fun _ hj => absurd hj (Nat.not_lt_zero _)
theorem wtTo_step {k : Nat} {l : List Int} (h : WtTo l k) (hk : -1000 ≤ l.getD k 0 ∧ l.getD k 0 ≤ 1000) : WtTo l (k + 1) := fun j hj => by
  rcases Nat.lt_or_ge j k with h' | h'
  · exact h j h'
  · obtain rfl : j = k := by omega
    exact hk
def IsWt (c : List (List Int)) (l : List Int) : Prop := WtTo l l.length ∧ IsC c ∧ l.length = c.length
open Classical in
noncomputable def wtB (c : List (List Int)) (l : List Int) : Bool := decide (IsWt c l)
open Classical in
theorem wtB_yes {c : List (List Int)} {l : List Int} (h : IsWt c l) : wtB c l = true := decide_eq_true h
open Classical in
theorem wtB_no {c : List (List Int)} {l : List Int} (h : ¬ IsWt c l) : wtB c l = false := decide_eq_false h
theorem isWt_bad {c : List (List Int)} {l : List Int} {k : Nat} (hk : k < l.length) (h : ¬ (-1000 ≤ l.getD k 0 ∧ l.getD k 0 ≤ 1000)) : ¬ IsWt c l := fun h' => h (h'.1 k hk)
open Classical in
noncomputable def wtlB (l : List Int) : Bool := decide (WtTo l l.length)
open Classical in
theorem wtlB_yes {l : List Int} (h : WtTo l l.length) : wtlB l = true := decide_eq_true h
open Classical in
theorem wtlB_no {l : List Int} (h : ¬ WtTo l l.length) : wtlB l = false := decide_eq_false h
theorem wtB_is (m : List (List Int)) (l : List Int) : wtB m l = (isB m && decide (l.length = m.length) && wtlB l) := by
  by_cases hI : IsC m
  · by_cases h15 : l.length = m.length
    · by_cases hl : WtTo l l.length
      · rw [wtB_yes ⟨hl, hI, h15⟩, isB_yes hI, decide_eq_true h15, wtlB_yes hl]; rfl
      · rw [wtB_no (fun h => hl h.1), wtlB_no hl, Bool.and_false]
    · rw [wtB_no (fun h => h15 h.2.2), decide_eq_false h15, Bool.and_false, Bool.false_and]
  · rw [wtB_no (fun h => hI h.2.1), isB_no hI, Bool.false_and, Bool.false_and]
/-! ### A reflection in place: the first k numbers are new -/
def rflS (m : List (List Int)) (i : Nat) (l : List Int) (k : Nat) : List Int := reflK m i l k ++ l.drop k
theorem rflS_zero (m : List (List Int)) (i : Nat) (l : List Int) : rflS m i l 0 = l := by simp [rflS, reflK]
theorem rflS_len (m : List (List Int)) (i : Nat) (l : List Int) (k : Nat) (h : k ≤ l.length) : (rflS m i l k).length = l.length := by simp [rflS, reflK_len]; omega
theorem rflS_end (m : List (List Int)) (i : Nat) (l : List Int) : rflS m i l l.length = reflL m i l := by simp [rflS, reflL]
theorem rflS_get (m : List (List Int)) (i : Nat) (l : List Int) (k : Nat) (h : k < l.length) : (rflS m i l k)[k]? = some (l.getD k 0) := by
  unfold rflS
  rw [List.getElem?_append_right (by rw [reflK_len]; exact Nat.le_refl _), reflK_len, Nat.sub_self, List.getElem?_drop]
  simp [List.getD, h]
theorem rflS_step (m : List (List Int)) (i : Nat) (l : List Int) (k : Nat) (h : k < l.length) : (rflS m i l k).set k (reflE m i l k) = rflS m i l (k + 1) := by
  unfold rflS
  rw [List.set_append_right _ _ (by rw [reflK_len]; exact Nat.le_refl _), reflK_len, Nat.sub_self, List.drop_eq_getElem_cons h, List.set_cons_zero, ← reflK_step, List.append_assoc]
  rfl
end Go.Proofs.YtcmnkhblnlmfpaaGreatDoor
namespace Go.Proofs.YtcmnkhblnlmfpaaGreatDoor
open Go.RowKit

theorem dec_small {u : Nat} (h : u < 10) : Lib.decDigits u = [UInt8.ofNat (48 + u)] := by rw [Lib.decDigits, dif_pos h]
theorem dec_big {u : Nat} (h : ¬ u < 10) : Lib.decDigits u = Lib.decDigits (u / 10) ++ [UInt8.ofNat (48 + u % 10)] := by rw [Lib.decDigits, dif_neg h]

/-- What the loop keeps: q is still to be written, out is written. -/
def DRel (n q : Nat) (s : ByteArray) : Prop := (0 < q ∧ Lib.decDigits q ++ s.data.toList = Lib.decDigits n) ∨ (q = 0 ∧ s.data.toList = Lib.decDigits n)
theorem drel_step {n q : Nat} {s : ByteArray} (hq : 0 < q) (h : DRel n q s) : DRel n (q / 10) (⟨#[UInt8.ofNat (48 + q % 10)]⟩ ++ s) := by
  rcases h with ⟨_, h⟩ | ⟨h, _⟩
  · have e : ((⟨#[UInt8.ofNat (48 + q % 10)]⟩ : ByteArray) ++ s).data.toList = UInt8.ofNat (48 + q % 10) :: s.data.toList := by rw [str_app]; rfl
    by_cases hs : q < 10
    · refine Or.inr ⟨by omega, ?_⟩
      rw [dec_small hs] at h
      rw [e, ← h, Nat.mod_eq_of_lt hs]; rfl
    · refine Or.inl ⟨by omega, ?_⟩
      rw [dec_big hs] at h
      rw [e, ← h]; simp
  · omega

theorem drel_end {n : Nat} {s : ByteArray} (h : DRel n 0 s) : s.data.toList = Lib.decDigits n := by
  rcases h with ⟨h, _⟩ | ⟨_, h⟩
  · omega
  · exact h

set_option maxHeartbeats 400000 in
set_option maxRecDepth 100000 in
theorem fmts_pos (n : Nat) (w : World) (h0 : 0 < n) (h1 : n ≤ 9223372036854775807) :
    Calls Tryz.prog 76 #[.int .i64 n] w fun e w' => e = .returned (.string ⟨(Lib.decDigits n).toArray⟩) ∧ Below w.heap.size w w' := by
  have hz : ((n : Int) == 0) = false := by rw [beq_eq_false_iff_ne]; omega
  have hneg : decide ((n : Int) < 0) = false := by simp
  go_enter Tryz.func76, Tryz.ntmps76
  go_wp2_with fail
  go_loopw [0, 3, 5] (fun a o _ wr => ∃ (q : Nat) (s : ByteArray), a = .int .i64 q ∧ o = .string s ∧ q ≤ n ∧ s.size + q ≤ n ∧ DRel n q s ∧ Below w.heap.size w wr ∧ w.heap.size ≤ wr.heap.size) (fun a _ _ _ => (intOf a).toNat)
  case atStart => exact ⟨n, ⟨#[]⟩, rfl, rfl, Nat.le_refl _, Nat.le_of_eq (Nat.zero_add _), Or.inl ⟨h0, by simp⟩, Below.refl _ _, Nat.le_refl _⟩
  case round =>
    obtain ⟨q, s, rfl, rfl, hq, hs, hr, hb, hz2⟩ := hrel
    have HR := Lib.hid hr; clear hr
    have HB := Lib.hid hb; clear hb
    by_cases hq0 : 0 < q
    · have hne : ((q : Int) != 0) = true := by rw [bne_iff_ne]; omega
      rename_i wr
      obtain ⟨b, hbq, hbu⟩ : ∃ b : UInt8, b = UInt8.ofNat (48 + q % 10) ∧ (b.toNat : Int) = 48 + (q : Int) % 10 := ⟨_, rfl, by rw [u8_nat _ (by omega)]; omega⟩
      have HBQ := Lib.hid hbq; clear hbq
      have hcv := conv_byte wr b hbu
      clear hbu
      have hst := drel_step hq0 HR.out
      rw [← HBQ.out] at hst
      have HST := Lib.hid hst; clear hst
      go_wp2_with fail
      refine ⟨⟨q / 10, _, by go_num, rfl, by omega, ?_, HST.out, HB.out.alloc hz2 _, by simp; omega⟩, by simp [intOf]; omega⟩
      rw [str_app_size]; omega
    · obtain rfl : q = 0 := by omega
      go_wp2_with fail
      go_ret
      exact ⟨ret_string (str_of (drel_end HR.out)), HB.out⟩

theorem itoa_pos (n : Nat) : Lib.itoa (n : Int) = Lib.decDigits n := by unfold Lib.itoa; rw [if_neg (by omega), Int.toNat_natCast]
theorem itoa_neg (n : Nat) (h : 0 < n) : Lib.itoa (-(n : Int)) = 45 :: Lib.decDigits n := by
  unfold Lib.itoa; rw [if_pos (by omega), Int.natAbs_neg, Int.natAbs_natCast]

theorem neg_tmod (q : Nat) : (-(q : Int)).tmod 10 = -((q : Int) % 10) := by
  rw [Int.neg_tmod, Int.tmod_eq_emod_of_nonneg (by omega)]
theorem neg_tdiv (q : Nat) : (-(q : Int)).tdiv 10 = -((q : Int) / 10) := by
  rw [Int.neg_tdiv, Int.tdiv_eq_ediv_of_nonneg (by omega)]

set_option maxHeartbeats 400000 in
set_option maxRecDepth 100000 in
theorem fmts_neg (n : Nat) (w : World) (h0 : 0 < n) (h1 : n ≤ 9223372036854775808) :
    Calls Tryz.prog 76 #[.int .i64 (-(n : Int))] w fun e w' => e = .returned (.string ⟨(45 :: Lib.decDigits n).toArray⟩) ∧ Below w.heap.size w w' := by
  have hz : (-(n : Int) == 0) = false := by rw [beq_eq_false_iff_ne]; omega
  have hneg : decide (-(n : Int) < 0) = true := by rw [decide_eq_true_eq]; omega
  go_enter Tryz.func76, Tryz.ntmps76
  go_wp2_with fail
  go_loopw [0, 3, 5] (fun a o _ wr => ∃ (q : Nat) (s : ByteArray), a = .int .i64 (-(q : Int)) ∧ o = .string s ∧ q ≤ n ∧ (s.size = 0 ∨ s.size + q ≤ n / 10 + 1) ∧ DRel n q s ∧ Below w.heap.size w wr ∧ w.heap.size ≤ wr.heap.size) (fun a _ _ _ => (-(intOf a)).toNat)
  case atStart => exact ⟨n, ⟨#[]⟩, rfl, rfl, Nat.le_refl _, Or.inl rfl, Or.inl ⟨h0, by simp⟩, Below.refl _ _, Nat.le_refl _⟩
  case round =>
    obtain ⟨q, s, rfl, rfl, hq, hs, hr, hb, hz2⟩ := hrel
    have HR := Lib.hid hr; clear hr
    have HB := Lib.hid hb; clear hb
    have ht := neg_tmod q
    have hd := neg_tdiv q
    by_cases hq0 : 0 < q
    · have hne : (-(q : Int) != 0) = true := by rw [bne_iff_ne]; omega
      rename_i wr
      have hs1 : s.size ≤ n / 10 + 1 := by omega
      have HS := Lib.hid hs; clear hs
      obtain ⟨b, hbq, hbu⟩ : ∃ b : UInt8, b = UInt8.ofNat (48 + q % 10) ∧ (b.toNat : Int) = 48 + (q : Int) % 10 := ⟨_, rfl, by rw [u8_nat _ (by omega)]; omega⟩
      have HBQ := Lib.hid hbq; clear hbq
      have hst := drel_step hq0 HR.out
      rw [← HBQ.out] at hst
      have HST := Lib.hid hst; clear hst
      by_cases hm : (q : Int) % 10 = 0
      · have hcv := conv_byte wr b (u := 48 + -((q : Int) % 10)) (by omega)
        have hm1 : (q : Int) % 10 ≤ 0 := by omega
        clear hm hbu
        go_wp2_with fail
        refine ⟨⟨q / 10, _, by go_num, rfl, by omega, Or.inr ?_, HST.out, HB.out.alloc hz2 _, by simp; omega⟩, by simp [intOf]; omega⟩
        have := HS.out
        rw [str_app_size]; omega
      · have hcv := conv_byte wr b hbu
        have hm1 : 0 < (q : Int) % 10 := by omega
        clear hm hbu
        go_wp2_with fail
        refine ⟨⟨q / 10, _, by go_num, rfl, by omega, Or.inr ?_, HST.out, HB.out.alloc hz2 _, by simp; omega⟩, by simp [intOf]; omega⟩
        have := HS.out
        rw [str_app_size]; omega
    · obtain rfl : q = 0 := by omega
      have hs1 : s.size ≤ n / 10 + 1 := by omega
      clear hs
      go_wp2_with fail
      go_ret
      refine ⟨ret_string (str_of ?_), HB.out⟩
      rw [str_app, drel_end HR.out]; rfl

set_option maxHeartbeats 400000 in
theorem fmts_zero (w : World) :
    Calls Tryz.prog 76 #[.int .i64 0] w fun e w' => e = .returned (.string ⟨(Lib.itoa 0).toArray⟩) ∧ Below w.heap.size w w' := by
  have hi : Lib.itoa 0 = [48] := by
    have := itoa_pos 0
    rw [dec_small (by omega)] at this
    exact this
  have HI := Lib.hid hi; clear hi
  go_enter Tryz.func76, Tryz.ntmps76
  go_wp2
  go_ret
  rw [HI.out]
  exact ⟨rfl, Below.refl _ _⟩

theorem fmts_any (n : Int) (w : World) (h0 : -9223372036854775808 ≤ n) (h1 : n ≤ 9223372036854775807) :
    Calls Tryz.prog 76 #[.int .i64 n] w fun e w' => e = .returned (.string ⟨(Lib.itoa n).toArray⟩) ∧ Below w.heap.size w w' := by
  rcases Int.lt_trichotomy n 0 with h | h | h
  · obtain ⟨m, rfl⟩ : ∃ m : Nat, n = -(m : Int) := ⟨n.natAbs, by omega⟩
    rw [itoa_neg m (by omega)]
    exact fmts_neg m w (by omega) (by omega)
  · subst h
    exact fmts_zero w
  · obtain ⟨m, rfl⟩ := Int.eq_ofNat_of_zero_le (show 0 ≤ n by omega)
    rw [itoa_pos m]
    exact fmts_pos m w (by omega) (by omega)
end Go.Proofs.YtcmnkhblnlmfpaaGreatDoor
namespace Go.Proofs.YtcmnkhblnlmfpaaGreatDoor
open Go.RowKit

theorem below_grow {w : World} (k : Nat) (os : Array Obj) : Below w.heap.size w (Sort.grow (w.drewN k) os) := by
  refine ⟨rfl, rfl, rfl, ?_, ?_⟩
  · show w.heap.size ≤ (w.heap ++ os).size
    simp
  · intro i hi
    show (w.heap ++ os)[i]? = w.heap[i]?
    rw [Array.getElem?_append_left hi]

set_option maxHeartbeats 400000 in
theorem fmti_any (n : Int) (w : World) (h0 : -9223372036854775808 ≤ n) (h1 : n ≤ 9223372036854775807)
    (htab : Lib.TabIs Tryz.prog w "internal/strconv.uint64pow10" .u64 Lib.pow10Tab) :
    Calls Tryz.prog 101 #[.int .i64 n] w fun e w' => e = .returned (.string ⟨(Lib.itoa n).toArray⟩) ∧ Below w.heap.size w w' := by
  have HT := Lib.hid htab; clear htab
  go_enter Tryz.func101, Tryz.ntmps101
  go_wp2_with (go_at_call 117; go_must (refine (Tryz.strconv_Itoa n h0 h1 _ HT.out).mono ?_; rintro e w' ⟨rfl, k, os, rfl⟩))
  go_ret
  exact ⟨rfl, below_grow k os⟩
end Go.Proofs.YtcmnkhblnlmfpaaGreatDoor
