/-
  Elements: the program's ways to the same answers (no walk here).
-/
import Derived.Test.YtnlbmnielemgiaaLc35
namespace Go.Proofs.Ytnlbmnielemgiaa
open Go.RowKit

theorem isW_nil {m : List (List Int)} (h : IsC m) : IsW m [] := ⟨fun _j hj => absurd hj (Nat.not_lt_zero _), h, Nat.zero_le _⟩
theorem wordB_rev (m : List (List Int)) (w : List Int) : wordB m w.reverse = wordB m w := by
  by_cases h : IsW m w
  · rw [wordB_yes h, wordB_yes (isW_rev h)]
  · rw [wordB_no h, wordB_no (fun h' => h (by have := isW_rev h'; rwa [List.reverse_reverse] at this))]
/-- What the program answers by one operation on two words. -/
noncomputable def elbB (m : List (List Int)) (a b ws : List Int) : Bool := wordB m a && wordB m b && decide ((fitL m ws).length ≤ 15)
noncomputable def elbL (m : List (List Int)) (a b ws : List Int) : List Int := if elbB m a b ws = true then fitL m ws else []
theorem elb_mul (m : List (List Int)) (a b : List Int) : elbB m a b (a ++ b) = mulB m a b ∧ elbL m a b (a ++ b) = mulL m a b := ⟨rfl, rfl⟩
theorem elb_inv (m : List (List Int)) (a : List Int) : elbB m a [] (a.reverse ++ []) = invB m a ∧ elbL m a [] (a.reverse ++ []) = invL m a := by
  rw [List.append_nil]
  have e : elbB m a [] a.reverse = invB m a := by
    unfold elbB invB
    rw [wordB_rev]
    by_cases h : IsW m a
    · have h2 := (fit_spec (wd_of (isW_rev h))).2.1
      have h3 := h.2.2
      rw [List.length_reverse] at h2
      rw [wordB_yes h, wordB_yes (isW_nil h.2.1), decide_eq_true (by omega)]; rfl
    · rw [wordB_no h]; rfl
  refine ⟨e, ?_⟩
  unfold elbL invL
  rw [e]
  unfold invB
  by_cases h : IsW m a
  · rw [wordB_yes (isW_rev h), if_pos rfl, nrm_fit (isW_rev h)]
  · rw [if_neg (by rw [wordB_rev, wordB_no h]; simp), nrmL_no (fun h' => h (by have := isW_rev h'; rwa [List.reverse_reverse] at this))]
theorem elb_front (m : List (List Int)) (a b : List Int) : elbB m b a (b.reverse ++ a) = mulB m b.reverse a ∧ elbL m b a (b.reverse ++ a) = mulL m b.reverse a := by
  have e : elbB m b a (b.reverse ++ a) = mulB m b.reverse a := by unfold elbB mulB; rw [wordB_rev]
  exact ⟨e, by unfold elbL mulL; rw [e]⟩
theorem mul_nrm {m : List (List Int)} {w : List Int} (h : IsW m w) (p : List Int) : mulB m p w = mulB m p (nrmL m w) ∧ mulL m p w = mulL m p (nrmL m w) := by
  have hn := nrm_word h
  by_cases hp : IsW m p
  · have e : fitL m (p ++ w) = fitL m (p ++ nrmL m w) := (fit_same (wd_cat hp h) (wd_cat hp hn) fun z => by
      rw [natsW_append, mapN_append, natsW_append, mapN_append, nrm_fit h, (fit_spec (wd_of h)).2.2.2.2]).2
    have e2 : mulB m p w = mulB m p (nrmL m w) := by unfold mulB; rw [e, wordB_yes h, wordB_yes hn]
    exact ⟨e2, by unfold mulL; rw [e2, e]⟩
  · have e1 : mulB m p w = false := by unfold mulB; rw [wordB_no hp]; rfl
    have e2 : mulB m p (nrmL m w) = false := by unfold mulB; rw [wordB_no hp]; rfl
    exact ⟨by rw [e1, e2], by rw [mul_no e1, mul_no e2]⟩
theorem pow_nrm {m : List (List Int)} {w : List Int} (h : IsW m w) : ∀ k, powS m w k = powS m (nrmL m w) k
  | 0 => rfl
  | k + 1 => by unfold powS; rw [pow_nrm h k, (mul_nrm h _).1, (mul_nrm h _).2]
theorem ivo_is (m : List (List Int)) (w : List Int) : ivoB m w = (samB m w w.reverse && !samB m w []) := by
  unfold ivoB
  by_cases h : IsW m w
  · have hc : comB m w w = true := by unfold comB; rw [wordB_yes h, eqwB_same]; rfl
    have hl : decide (0 < lenI m w) = !samB m w [] := by
      unfold lenI samB
      rw [wordB_yes h, wordB_yes (isW_nil h.2.1), if_pos rfl, eqwB_is, nrm_fit h, Bool.true_and, Bool.true_and]
      by_cases he : imgW m w = imgW m []
      · have h0 : fitL m w = [] := by
          have := fit_nil h.2.1
          unfold fitL at this ⊢; rw [he]; exact this
        rw [decide_eq_true he, h0]; rfl
      · have h0 : fitL m w ≠ [] := fun h0 => he (by have := (fit_spec (wd_of h)).1; rw [h0] at this; exact this.symm)
        have : 0 < (fitL m w).length := List.length_pos_iff.2 h0
        rw [decide_eq_false he, decide_eq_true (by omega)]; rfl
    rw [hc, hl, Bool.and_true, Bool.and_comm]
  · have h1 : lenI m w = -1 := by unfold lenI; rw [wordB_no h]; rfl
    rw [h1, show samB m w w.reverse = false by unfold samB; rw [wordB_no h]; rfl]; simp
theorem mulL_len (m : List (List Int)) (a b : List Int) : (mulL m a b).length ≤ 31 := by
  unfold mulL
  split
  · exact fitL_len m _
  · exact Nat.zero_le _
theorem cnjL_len (m : List (List Int)) (a b : List Int) : (cnjL m a b).length ≤ 31 := by
  unfold cnjL
  split
  · exact mulL_len m _ _
  · exact Nat.zero_le _
theorem powS_len' (m : List (List Int)) (x : List Int) : ∀ t, (powS m x t).1.length ≤ 31
  | 0 => Nat.zero_le _
  | t + 1 => by
    unfold powS
    split
    · exact mulL_len m _ _
    · exact Nat.zero_le _
theorem powL_len (m : List (List Int)) (w : List Int) (k : Int) : (powL m w k).length ≤ 31 := by
  unfold powL
  split
  · exact powS_len' m _ _
  · exact Nat.zero_le _
end Go.Proofs.Ytnlbmnielemgiaa
