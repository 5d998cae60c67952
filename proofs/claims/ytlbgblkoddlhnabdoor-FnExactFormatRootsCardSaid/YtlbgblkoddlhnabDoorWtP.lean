/-
  Weights: what the functions of chapter 6 answer (no walk here).
-/
import Derived.Test.YtlbgblkoddlhnabDoorWrdP
import Derived.IntWalk
namespace Go.Proofs.YtlbgblkoddlhnabDoor
open Go.RowKit

def mulW (x y : Int) : Int := wrap64 (x * y)
def subW (x y : Int) : Int := wrap64 (x - y)
def addW (x y : Int) : Int := wrap64 (x + y)
theorem wrapk (x : Int) : IntKind.i64.wrap x = wrap64 x := by rw [IntKind.wrap_i64, wrap64]
/-! ### A reflection of a weight -/
def reflE (m : List (List Int)) (i : Nat) (l : List Int) (k : Nat) : Int := subW (l.getD k 0) (mulW (l.getD i 0) (entry m k i))
def reflK (m : List (List Int)) (i : Nat) (l : List Int) (k : Nat) : List Int := (List.range k).map (reflE m i l)
def reflL (m : List (List Int)) (i : Nat) (l : List Int) : List Int := reflK m i l l.length
theorem reflK_len (m : List (List Int)) (i : Nat) (l : List Int) (k : Nat) : (reflK m i l k).length = k := by simp [reflK]
theorem reflL_len (m : List (List Int)) (i : Nat) (l : List Int) : (reflL m i l).length = l.length := reflK_len _ _ _ _
theorem reflK_step (m : List (List Int)) (i : Nat) (l : List Int) (k : Nat) : reflK m i l k ++ [reflE m i l k] = reflK m i l (k + 1) := by simp [reflK, List.range_succ]
def RefOk (m : List (List Int)) (i : Int) (l : List Int) : Prop := IsC m ∧ l.length = m.length ∧ (0 ≤ i ∧ i ≤ (m.length : Int) - 1)
open Classical in
noncomputable def refwL (m : List (List Int)) (i : Int) (l : List Int) : List Int := if RefOk m i l then reflL m i.toNat l else l
theorem refwL_yes {m : List (List Int)} {i : Int} {l : List Int} (h : RefOk m i l) : refwL m i l = reflL m i.toNat l := if_pos h
theorem refwL_no {m : List (List Int)} {i : Int} {l : List Int} (h : ¬ RefOk m i l) : refwL m i l = l := if_neg h
theorem refwL_len (m : List (List Int)) (i : Int) (l : List Int) : (refwL m i l).length = l.length := by
  by_cases h : RefOk m i l
  · rw [refwL_yes h, reflL_len]
  · rw [refwL_no h]
/-! ### A word that acts -/
def actW (m : List (List Int)) (ws : List Int) (l : List Int) : List Int := ws.foldr (fun i l => reflL m i.toNat l) l
theorem actW_len (m : List (List Int)) (ws l : List Int) : (actW m ws l).length = l.length := by
  induction ws with
  | nil => rfl
  | cons i ws ih => simp only [actW, List.foldr_cons] at ih ⊢; rw [reflL_len]; exact ih
theorem actW_step {m : List (List Int)} {ws l : List Int} {k : Nat} (h : k < ws.length) : reflL m (ws.getD k 0).toNat (actW m (ws.drop (k + 1)) l) = actW m (ws.drop k) l := by
  conv => rhs; rw [List.drop_eq_getElem_cons h]
  have e : ws.getD k 0 = ws[k] := by simp [List.getD, h]
  unfold actW
  rw [List.foldr_cons, e]
def ActOk (m : List (List Int)) (ws l : List Int) : Prop := IsW m ws ∧ l.length = m.length
open Classical in
noncomputable def actL (m : List (List Int)) (ws l : List Int) : List Int := if ActOk m ws l then actW m ws l else l
theorem actL_yes {m : List (List Int)} {ws l : List Int} (h : ActOk m ws l) : actL m ws l = actW m ws l := if_pos h
theorem actL_no {m : List (List Int)} {ws l : List Int} (h : ¬ ActOk m ws l) : actL m ws l = l := if_neg h
theorem actL_len (m : List (List Int)) (ws l : List Int) : (actL m ws l).length = l.length := by
  by_cases h : ActOk m ws l
  · rw [actL_yes h, actW_len]
  · rw [actL_no h]
/-! ### Ones, sums, columns -/
def onesR (n : Nat) : List Int := List.replicate n 1
theorem onesR_step (n : Nat) : onesR n ++ [1] = onesR (n + 1) := by simp [onesR, List.replicate_succ']
open Classical in
noncomputable def rhoL (m : List (List Int)) : List Int := if IsC m then onesR m.length else []
theorem rhoL_yes {m : List (List Int)} (h : IsC m) : rhoL m = onesR m.length := if_pos h
theorem rhoL_no {m : List (List Int)} (h : ¬ IsC m) : rhoL m = [] := if_neg h
theorem rhoL_len (m : List (List Int)) : (rhoL m).length ≤ 4 := by
  by_cases h : IsC m
  · rw [rhoL_yes h]; simp [onesR]; exact h.2.2.2
  · rw [rhoL_no h]; simp
def addK (a b : List Int) (k : Nat) : List Int := (List.range k).map fun j => addW (a.getD j 0) (b.getD j 0)
theorem addK_step (a b : List Int) (k : Nat) : addK a b k ++ [addW (a.getD k 0) (b.getD k 0)] = addK a b (k + 1) := by simp [addK, List.range_succ]
theorem addK_len (a b : List Int) (k : Nat) : (addK a b k).length = k := by simp [addK]
def addL (a b : List Int) : List Int := addK a b (min a.length b.length)
theorem addL_len (a b : List Int) : (addL a b).length ≤ a.length := by unfold addL; rw [addK_len]; exact Nat.min_le_left _ _
def colK (m : List (List Int)) (i k : Nat) : List Int := (List.range k).map fun j => entry m j i
theorem colK_step (m : List (List Int)) (i k : Nat) : colK m i k ++ [entry m k i] = colK m i (k + 1) := by simp [colK, List.range_succ]
theorem colK_len (m : List (List Int)) (i k : Nat) : (colK m i k).length = k := by simp [colK]
def PtOk (m : List (List Int)) (i : Int) : Prop := IsC m ∧ (0 ≤ i ∧ i ≤ (m.length : Int) - 1)
open Classical in
noncomputable def srwL (m : List (List Int)) (i : Int) : List Int := if PtOk m i then colK m i.toNat m.length else []
theorem srwL_yes {m : List (List Int)} {i : Int} (h : PtOk m i) : srwL m i = colK m i.toNat m.length := if_pos h
theorem srwL_no {m : List (List Int)} {i : Int} (h : ¬ PtOk m i) : srwL m i = [] := if_neg h
theorem srwL_len (m : List (List Int)) (i : Int) : (srwL m i).length ≤ 4 := by
  by_cases h : PtOk m i
  · rw [srwL_yes h, colK_len]; exact h.1.2.2.2
  · rw [srwL_no h]; simp
end Go.Proofs.YtlbgblkoddlhnabDoor
