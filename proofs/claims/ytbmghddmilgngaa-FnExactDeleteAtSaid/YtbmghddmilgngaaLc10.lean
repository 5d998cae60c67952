/-
  The exchange: where the image of a word is negative at a letter, the letter in front strikes one letter of the word (no walk here).
  Deletion: a word that is too long has two letters to strike; a reduced word, one letter longer or shorter (no walk here).
-/
import Derived.Test.YtbmghddmilgngaaLc08
namespace Go.Proofs.Ytbmghddmilgngaa
open Go.RowKit

abbrev OpV := (Nat → Int) → Nat → Int
open Classical in
noncomputable def tf (p : Prop) : Bool := decide p
open Classical in
theorem tf_yes {p : Prop} (h : p) : tf p = true := by unfold tf; exact decide_eq_true h
open Classical in
theorem tf_no {p : Prop} (h : ¬ p) : tf p = false := by unfold tf; exact decide_eq_false h
open Classical in
theorem tf_is {p : Prop} (h : tf p = true) : p := by unfold tf at h; exact of_decide_eq_true h
/-- A letter's move on what is marked: its own mark changes, the others are carried. -/
noncomputable def markS (A : Nat → Nat → Int) (i : Nat) (η : OpV → Bool) : OpV → Bool := fun t => xor (tf (t = rfC A i)) (η (fun z => rfC A i (t (rfC A i z))))
theorem mark_twice {A : Nat → Nat → Int} {i : Nat} (hii : A i i = 2) (η : OpV → Bool) : markS A i (markS A i η) = η := by
  have ha := rfC_twice (A := A) (i := i) hii
  funext t
  simp only [markS, ha]
  have e : ((fun z => rfC A i (t (rfC A i z))) = rfC A i) = (t = rfC A i) := propext ⟨fun h => by
    funext z
    have h1 := congrFun h (rfC A i z)
    simp only [ha] at h1
    rw [← ha (t z), h1], fun h => by
    subst h; funext z; exact ha _⟩
  rw [e]
  cases tf (t = rfC A i) <;> simp
section braid
variable {A : Nat → Nat → Int} {i k : Nat}
theorem xor_2 (p1 p2 e : Bool) : xor p1 (xor p2 (xor p1 e)) = xor p2 e := by
  cases p1 <;> cases p2 <;> cases e <;> rfl
theorem xor_3 (p1 p2 p3 e : Bool) : xor p1 (xor p2 (xor p3 (xor p1 (xor p2 e)))) = xor p3 e := by
  cases p1 <;> cases p2 <;> cases p3 <;> cases e <;> rfl
theorem xor_4 (p1 p2 p3 p4 e : Bool) : xor p1 (xor p2 (xor p3 (xor p4 (xor p1 (xor p2 (xor p3 e)))))) = xor p4 e := by
  cases p1 <;> cases p2 <;> cases p3 <;> cases p4 <;> cases e <;> rfl
theorem xor_6 (p1 p2 p3 p4 p5 p6 e : Bool) : xor p1 (xor p2 (xor p3 (xor p4 (xor p5 (xor p6 (xor p1 (xor p2 (xor p3 (xor p4 (xor p5 e)))))))))) = xor p6 e := by
  cases p1 <;> cases p2 <;> cases p3 <;> cases p4 <;> cases p5 <;> cases p6 <;> cases e <;> rfl
set_option maxHeartbeats 2000000 in
theorem mark_00 (hii : A i i = 2) (hkk : A k k = 2) (hik : A i k = -0) (hki : A k i = -0) (η : OpV → Bool) : markS A k (markS A i (markS A k η)) = markS A i η := by
  have ai := rfC_twice (A := A) (i := i) hii
  have ak := rfC_twice (A := A) (i := k) hkk
  have hb := fun z => braidC_00 (A := A) (i := i) (k := k) hii hkk hik hki z
  have dk : ∀ z, rfC A k (rfC A i (rfC A k (rfC A i z))) = z := fun z => by rw [hb (rfC A i z), ai]
  have di : ∀ z, rfC A i (rfC A k (rfC A i (rfC A k z))) = z := fun z => by rw [hb z, ai]
  have qk : ∀ z, rfC A k (rfC A i (rfC A k (rfC A i (rfC A k z)))) = rfC A k z := fun z => by rw [di z]
  have lk : ∀ y : OpV, ((fun z => rfC A i (rfC A k (y (rfC A k (rfC A i z))))) = rfC A k) = (y = rfC A k) := fun y => propext ⟨fun h => by
    funext z
    have h1 := congrFun h (rfC A i (rfC A k z))
    simp only [ai, ak] at h1
    have h2 := congrArg (fun x => rfC A k (rfC A i x)) h1
    simp only [ai, ak] at h2
    rw [h2]; exact qk z, fun h => by
    subst h; funext z
    have h1 := qk (rfC A k (rfC A i z))
    simp only [ai, ak] at h1
    rw [← h1]
    simp only [ai, ak]⟩
  have qi : ∀ z, rfC A i (rfC A k (rfC A i (rfC A k (rfC A i z)))) = rfC A i z := fun z => by rw [dk z]
  have li : ∀ y : OpV, ((fun z => rfC A k (rfC A i (y (rfC A i (rfC A k z))))) = rfC A i) = (y = rfC A i) := fun y => propext ⟨fun h => by
    funext z
    have h1 := congrFun h (rfC A k (rfC A i z))
    simp only [ai, ak] at h1
    have h2 := congrArg (fun x => rfC A i (rfC A k x)) h1
    simp only [ai, ak] at h2
    rw [h2]; exact qi z, fun h => by
    subst h; funext z
    have h1 := qi (rfC A i (rfC A k z))
    simp only [ai, ak] at h1
    rw [← h1]
    simp only [ai, ak]⟩
  have lm : ∀ y : OpV, ((fun z => rfC A k (y (rfC A k z))) = rfC A i) = (y = rfC A i) := fun y => propext ⟨fun h => by
    funext z
    have h1 := congrFun h (rfC A k z)
    simp only [ak] at h1
    have h2 := congrArg (fun x => rfC A k x) h1
    simp only [ak] at h2
    rw [h2]; exact hb z, fun h => by
    subst h; funext z
    have h1 := hb (rfC A k z)
    simp only [ak] at h1
    rw [← h1]
    simp only [ak]⟩
  funext t
  simp only [markS]
  have e1 := lk (t)
  have em := lm t
  simp only [e1]
  simp only [em, hb]
  exact xor_2 _ _ _
set_option maxHeartbeats 2000000 in
theorem mark_11 (hii : A i i = 2) (hkk : A k k = 2) (hik : A i k = -1) (hki : A k i = -1) (η : OpV → Bool) : markS A k (markS A i (markS A k (markS A i (markS A k η)))) = markS A i η := by
  have ai := rfC_twice (A := A) (i := i) hii
  have ak := rfC_twice (A := A) (i := k) hkk
  have hb := fun z => braidC_11 (A := A) (i := i) (k := k) hii hkk hik hki z
  have dk : ∀ z, rfC A k (rfC A i (rfC A k (rfC A i (rfC A k (rfC A i z))))) = z := fun z => by rw [hb (rfC A i z), ai]
  have di : ∀ z, rfC A i (rfC A k (rfC A i (rfC A k (rfC A i (rfC A k z))))) = z := fun z => by rw [hb z, ai]
  have qk : ∀ z, rfC A k (rfC A i (rfC A k (rfC A i (rfC A k (rfC A i (rfC A k z)))))) = rfC A k z := fun z => by rw [di z]
  have lk : ∀ y : OpV, ((fun z => rfC A k (rfC A i (rfC A k (y (rfC A k (rfC A i (rfC A k z))))))) = rfC A i) = (y = rfC A k) := fun y => propext ⟨fun h => by
    funext z
    have h1 := congrFun h (rfC A k (rfC A i (rfC A k z)))
    simp only [ai, ak] at h1
    have h2 := congrArg (fun x => rfC A k (rfC A i (rfC A k x))) h1
    simp only [ai, ak] at h2
    rw [h2]; exact qk z, fun h => by
    subst h; funext z
    have h1 := qk (rfC A k (rfC A i (rfC A k z)))
    simp only [ai, ak] at h1
    rw [← h1]
    simp only [ai, ak]⟩
  have qi : ∀ z, rfC A i (rfC A k (rfC A i (rfC A k (rfC A i (rfC A k (rfC A i z)))))) = rfC A i z := fun z => by rw [dk z]
  have li : ∀ y : OpV, ((fun z => rfC A i (rfC A k (rfC A i (y (rfC A i (rfC A k (rfC A i z))))))) = rfC A k) = (y = rfC A i) := fun y => propext ⟨fun h => by
    funext z
    have h1 := congrFun h (rfC A i (rfC A k (rfC A i z)))
    simp only [ai, ak] at h1
    have h2 := congrArg (fun x => rfC A i (rfC A k (rfC A i x))) h1
    simp only [ai, ak] at h2
    rw [h2]; exact qi z, fun h => by
    subst h; funext z
    have h1 := qi (rfC A i (rfC A k (rfC A i z)))
    simp only [ai, ak] at h1
    rw [← h1]
    simp only [ai, ak]⟩
  have lm : ∀ y : OpV, ((fun z => rfC A i (rfC A k (y (rfC A k (rfC A i z))))) = rfC A k) = (y = rfC A i) := fun y => propext ⟨fun h => by
    funext z
    have h1 := congrFun h (rfC A i (rfC A k z))
    simp only [ai, ak] at h1
    have h2 := congrArg (fun x => rfC A k (rfC A i x)) h1
    simp only [ai, ak] at h2
    rw [h2]; exact hb z, fun h => by
    subst h; funext z
    have h1 := hb (rfC A k (rfC A i z))
    simp only [ai, ak] at h1
    rw [← h1]
    simp only [ai, ak]⟩
  funext t
  simp only [markS]
  have e1 := lk (t)
  have e2 := li (fun z => rfC A k (t (rfC A k z)))
  have em := lm t
  simp only [e1, e2]
  simp only [em, hb]
  exact xor_3 _ _ _ _
set_option maxHeartbeats 2000000 in
theorem mark_12 (hii : A i i = 2) (hkk : A k k = 2) (hik : A i k = -1) (hki : A k i = -2) (η : OpV → Bool) : markS A k (markS A i (markS A k (markS A i (markS A k (markS A i (markS A k η)))))) = markS A i η := by
  have ai := rfC_twice (A := A) (i := i) hii
  have ak := rfC_twice (A := A) (i := k) hkk
  have hb := fun z => braidC_12 (A := A) (i := i) (k := k) hii hkk hik hki z
  have dk : ∀ z, rfC A k (rfC A i (rfC A k (rfC A i (rfC A k (rfC A i (rfC A k (rfC A i z))))))) = z := fun z => by rw [hb (rfC A i z), ai]
  have di : ∀ z, rfC A i (rfC A k (rfC A i (rfC A k (rfC A i (rfC A k (rfC A i (rfC A k z))))))) = z := fun z => by rw [hb z, ai]
  have qk : ∀ z, rfC A k (rfC A i (rfC A k (rfC A i (rfC A k (rfC A i (rfC A k (rfC A i (rfC A k z)))))))) = rfC A k z := fun z => by rw [di z]
  have lk : ∀ y : OpV, ((fun z => rfC A i (rfC A k (rfC A i (rfC A k (y (rfC A k (rfC A i (rfC A k (rfC A i z))))))))) = rfC A k) = (y = rfC A k) := fun y => propext ⟨fun h => by
    funext z
    have h1 := congrFun h (rfC A i (rfC A k (rfC A i (rfC A k z))))
    simp only [ai, ak] at h1
    have h2 := congrArg (fun x => rfC A k (rfC A i (rfC A k (rfC A i x)))) h1
    simp only [ai, ak] at h2
    rw [h2]; exact qk z, fun h => by
    subst h; funext z
    have h1 := qk (rfC A k (rfC A i (rfC A k (rfC A i z))))
    simp only [ai, ak] at h1
    rw [← h1]
    simp only [ai, ak]⟩
  have qi : ∀ z, rfC A i (rfC A k (rfC A i (rfC A k (rfC A i (rfC A k (rfC A i (rfC A k (rfC A i z)))))))) = rfC A i z := fun z => by rw [dk z]
  have li : ∀ y : OpV, ((fun z => rfC A k (rfC A i (rfC A k (rfC A i (y (rfC A i (rfC A k (rfC A i (rfC A k z))))))))) = rfC A i) = (y = rfC A i) := fun y => propext ⟨fun h => by
    funext z
    have h1 := congrFun h (rfC A k (rfC A i (rfC A k (rfC A i z))))
    simp only [ai, ak] at h1
    have h2 := congrArg (fun x => rfC A i (rfC A k (rfC A i (rfC A k x)))) h1
    simp only [ai, ak] at h2
    rw [h2]; exact qi z, fun h => by
    subst h; funext z
    have h1 := qi (rfC A i (rfC A k (rfC A i (rfC A k z))))
    simp only [ai, ak] at h1
    rw [← h1]
    simp only [ai, ak]⟩
  have lm : ∀ y : OpV, ((fun z => rfC A k (rfC A i (rfC A k (y (rfC A k (rfC A i (rfC A k z))))))) = rfC A i) = (y = rfC A i) := fun y => propext ⟨fun h => by
    funext z
    have h1 := congrFun h (rfC A k (rfC A i (rfC A k z)))
    simp only [ai, ak] at h1
    have h2 := congrArg (fun x => rfC A k (rfC A i (rfC A k x))) h1
    simp only [ai, ak] at h2
    rw [h2]; exact hb z, fun h => by
    subst h; funext z
    have h1 := hb (rfC A k (rfC A i (rfC A k z)))
    simp only [ai, ak] at h1
    rw [← h1]
    simp only [ai, ak]⟩
  funext t
  simp only [markS]
  have e1 := lk (t)
  have e2 := li (fun z => rfC A k (t (rfC A k z)))
  have e3 := lk (fun z => rfC A i (rfC A k (t (rfC A k (rfC A i z)))))
  have em := lm t
  simp only [e1, e2, e3]
  simp only [em, hb]
  exact xor_4 _ _ _ _ _
set_option maxHeartbeats 2000000 in
theorem mark_21 (hii : A i i = 2) (hkk : A k k = 2) (hik : A i k = -2) (hki : A k i = -1) (η : OpV → Bool) : markS A k (markS A i (markS A k (markS A i (markS A k (markS A i (markS A k η)))))) = markS A i η := by
  have ai := rfC_twice (A := A) (i := i) hii
  have ak := rfC_twice (A := A) (i := k) hkk
  have hb := fun z => braidC_21 (A := A) (i := i) (k := k) hii hkk hik hki z
  have dk : ∀ z, rfC A k (rfC A i (rfC A k (rfC A i (rfC A k (rfC A i (rfC A k (rfC A i z))))))) = z := fun z => by rw [hb (rfC A i z), ai]
  have di : ∀ z, rfC A i (rfC A k (rfC A i (rfC A k (rfC A i (rfC A k (rfC A i (rfC A k z))))))) = z := fun z => by rw [hb z, ai]
  have qk : ∀ z, rfC A k (rfC A i (rfC A k (rfC A i (rfC A k (rfC A i (rfC A k (rfC A i (rfC A k z)))))))) = rfC A k z := fun z => by rw [di z]
  have lk : ∀ y : OpV, ((fun z => rfC A i (rfC A k (rfC A i (rfC A k (y (rfC A k (rfC A i (rfC A k (rfC A i z))))))))) = rfC A k) = (y = rfC A k) := fun y => propext ⟨fun h => by
    funext z
    have h1 := congrFun h (rfC A i (rfC A k (rfC A i (rfC A k z))))
    simp only [ai, ak] at h1
    have h2 := congrArg (fun x => rfC A k (rfC A i (rfC A k (rfC A i x)))) h1
    simp only [ai, ak] at h2
    rw [h2]; exact qk z, fun h => by
    subst h; funext z
    have h1 := qk (rfC A k (rfC A i (rfC A k (rfC A i z))))
    simp only [ai, ak] at h1
    rw [← h1]
    simp only [ai, ak]⟩
  have qi : ∀ z, rfC A i (rfC A k (rfC A i (rfC A k (rfC A i (rfC A k (rfC A i (rfC A k (rfC A i z)))))))) = rfC A i z := fun z => by rw [dk z]
  have li : ∀ y : OpV, ((fun z => rfC A k (rfC A i (rfC A k (rfC A i (y (rfC A i (rfC A k (rfC A i (rfC A k z))))))))) = rfC A i) = (y = rfC A i) := fun y => propext ⟨fun h => by
    funext z
    have h1 := congrFun h (rfC A k (rfC A i (rfC A k (rfC A i z))))
    simp only [ai, ak] at h1
    have h2 := congrArg (fun x => rfC A i (rfC A k (rfC A i (rfC A k x)))) h1
    simp only [ai, ak] at h2
    rw [h2]; exact qi z, fun h => by
    subst h; funext z
    have h1 := qi (rfC A i (rfC A k (rfC A i (rfC A k z))))
    simp only [ai, ak] at h1
    rw [← h1]
    simp only [ai, ak]⟩
  have lm : ∀ y : OpV, ((fun z => rfC A k (rfC A i (rfC A k (y (rfC A k (rfC A i (rfC A k z))))))) = rfC A i) = (y = rfC A i) := fun y => propext ⟨fun h => by
    funext z
    have h1 := congrFun h (rfC A k (rfC A i (rfC A k z)))
    simp only [ai, ak] at h1
    have h2 := congrArg (fun x => rfC A k (rfC A i (rfC A k x))) h1
    simp only [ai, ak] at h2
    rw [h2]; exact hb z, fun h => by
    subst h; funext z
    have h1 := hb (rfC A k (rfC A i (rfC A k z)))
    simp only [ai, ak] at h1
    rw [← h1]
    simp only [ai, ak]⟩
  funext t
  simp only [markS]
  have e1 := lk (t)
  have e2 := li (fun z => rfC A k (t (rfC A k z)))
  have e3 := lk (fun z => rfC A i (rfC A k (t (rfC A k (rfC A i z)))))
  have em := lm t
  simp only [e1, e2, e3]
  simp only [em, hb]
  exact xor_4 _ _ _ _ _
set_option maxHeartbeats 2000000 in
theorem mark_13 (hii : A i i = 2) (hkk : A k k = 2) (hik : A i k = -1) (hki : A k i = -3) (η : OpV → Bool) : markS A k (markS A i (markS A k (markS A i (markS A k (markS A i (markS A k (markS A i (markS A k (markS A i (markS A k η)))))))))) = markS A i η := by
  have ai := rfC_twice (A := A) (i := i) hii
  have ak := rfC_twice (A := A) (i := k) hkk
  have hb := fun z => braidC_13 (A := A) (i := i) (k := k) hii hkk hik hki z
  have dk : ∀ z, rfC A k (rfC A i (rfC A k (rfC A i (rfC A k (rfC A i (rfC A k (rfC A i (rfC A k (rfC A i (rfC A k (rfC A i z))))))))))) = z := fun z => by rw [hb (rfC A i z), ai]
  have di : ∀ z, rfC A i (rfC A k (rfC A i (rfC A k (rfC A i (rfC A k (rfC A i (rfC A k (rfC A i (rfC A k (rfC A i (rfC A k z))))))))))) = z := fun z => by rw [hb z, ai]
  have qk : ∀ z, rfC A k (rfC A i (rfC A k (rfC A i (rfC A k (rfC A i (rfC A k (rfC A i (rfC A k (rfC A i (rfC A k (rfC A i (rfC A k z)))))))))))) = rfC A k z := fun z => by rw [di z]
  have lk : ∀ y : OpV, ((fun z => rfC A i (rfC A k (rfC A i (rfC A k (rfC A i (rfC A k (y (rfC A k (rfC A i (rfC A k (rfC A i (rfC A k (rfC A i z))))))))))))) = rfC A k) = (y = rfC A k) := fun y => propext ⟨fun h => by
    funext z
    have h1 := congrFun h (rfC A i (rfC A k (rfC A i (rfC A k (rfC A i (rfC A k z))))))
    simp only [ai, ak] at h1
    have h2 := congrArg (fun x => rfC A k (rfC A i (rfC A k (rfC A i (rfC A k (rfC A i x)))))) h1
    simp only [ai, ak] at h2
    rw [h2]; exact qk z, fun h => by
    subst h; funext z
    have h1 := qk (rfC A k (rfC A i (rfC A k (rfC A i (rfC A k (rfC A i z))))))
    simp only [ai, ak] at h1
    rw [← h1]
    simp only [ai, ak]⟩
  have qi : ∀ z, rfC A i (rfC A k (rfC A i (rfC A k (rfC A i (rfC A k (rfC A i (rfC A k (rfC A i (rfC A k (rfC A i (rfC A k (rfC A i z)))))))))))) = rfC A i z := fun z => by rw [dk z]
  have li : ∀ y : OpV, ((fun z => rfC A k (rfC A i (rfC A k (rfC A i (rfC A k (rfC A i (y (rfC A i (rfC A k (rfC A i (rfC A k (rfC A i (rfC A k z))))))))))))) = rfC A i) = (y = rfC A i) := fun y => propext ⟨fun h => by
    funext z
    have h1 := congrFun h (rfC A k (rfC A i (rfC A k (rfC A i (rfC A k (rfC A i z))))))
    simp only [ai, ak] at h1
    have h2 := congrArg (fun x => rfC A i (rfC A k (rfC A i (rfC A k (rfC A i (rfC A k x)))))) h1
    simp only [ai, ak] at h2
    rw [h2]; exact qi z, fun h => by
    subst h; funext z
    have h1 := qi (rfC A i (rfC A k (rfC A i (rfC A k (rfC A i (rfC A k z))))))
    simp only [ai, ak] at h1
    rw [← h1]
    simp only [ai, ak]⟩
  have lm : ∀ y : OpV, ((fun z => rfC A k (rfC A i (rfC A k (rfC A i (rfC A k (y (rfC A k (rfC A i (rfC A k (rfC A i (rfC A k z))))))))))) = rfC A i) = (y = rfC A i) := fun y => propext ⟨fun h => by
    funext z
    have h1 := congrFun h (rfC A k (rfC A i (rfC A k (rfC A i (rfC A k z)))))
    simp only [ai, ak] at h1
    have h2 := congrArg (fun x => rfC A k (rfC A i (rfC A k (rfC A i (rfC A k x))))) h1
    simp only [ai, ak] at h2
    rw [h2]; exact hb z, fun h => by
    subst h; funext z
    have h1 := hb (rfC A k (rfC A i (rfC A k (rfC A i (rfC A k z)))))
    simp only [ai, ak] at h1
    rw [← h1]
    simp only [ai, ak]⟩
  funext t
  simp only [markS]
  have e1 := lk (t)
  have e2 := li (fun z => rfC A k (t (rfC A k z)))
  have e3 := lk (fun z => rfC A i (rfC A k (t (rfC A k (rfC A i z)))))
  have e4 := li (fun z => rfC A k (rfC A i (rfC A k (t (rfC A k (rfC A i (rfC A k z)))))))
  have e5 := lk (fun z => rfC A i (rfC A k (rfC A i (rfC A k (t (rfC A k (rfC A i (rfC A k (rfC A i z)))))))))
  have em := lm t
  simp only [e1, e2, e3, e4, e5]
  simp only [em, hb]
  exact xor_6 _ _ _ _ _ _ _
set_option maxHeartbeats 2000000 in
theorem mark_31 (hii : A i i = 2) (hkk : A k k = 2) (hik : A i k = -3) (hki : A k i = -1) (η : OpV → Bool) : markS A k (markS A i (markS A k (markS A i (markS A k (markS A i (markS A k (markS A i (markS A k (markS A i (markS A k η)))))))))) = markS A i η := by
  have ai := rfC_twice (A := A) (i := i) hii
  have ak := rfC_twice (A := A) (i := k) hkk
  have hb := fun z => braidC_31 (A := A) (i := i) (k := k) hii hkk hik hki z
  have dk : ∀ z, rfC A k (rfC A i (rfC A k (rfC A i (rfC A k (rfC A i (rfC A k (rfC A i (rfC A k (rfC A i (rfC A k (rfC A i z))))))))))) = z := fun z => by rw [hb (rfC A i z), ai]
  have di : ∀ z, rfC A i (rfC A k (rfC A i (rfC A k (rfC A i (rfC A k (rfC A i (rfC A k (rfC A i (rfC A k (rfC A i (rfC A k z))))))))))) = z := fun z => by rw [hb z, ai]
  have qk : ∀ z, rfC A k (rfC A i (rfC A k (rfC A i (rfC A k (rfC A i (rfC A k (rfC A i (rfC A k (rfC A i (rfC A k (rfC A i (rfC A k z)))))))))))) = rfC A k z := fun z => by rw [di z]
  have lk : ∀ y : OpV, ((fun z => rfC A i (rfC A k (rfC A i (rfC A k (rfC A i (rfC A k (y (rfC A k (rfC A i (rfC A k (rfC A i (rfC A k (rfC A i z))))))))))))) = rfC A k) = (y = rfC A k) := fun y => propext ⟨fun h => by
    funext z
    have h1 := congrFun h (rfC A i (rfC A k (rfC A i (rfC A k (rfC A i (rfC A k z))))))
    simp only [ai, ak] at h1
    have h2 := congrArg (fun x => rfC A k (rfC A i (rfC A k (rfC A i (rfC A k (rfC A i x)))))) h1
    simp only [ai, ak] at h2
    rw [h2]; exact qk z, fun h => by
    subst h; funext z
    have h1 := qk (rfC A k (rfC A i (rfC A k (rfC A i (rfC A k (rfC A i z))))))
    simp only [ai, ak] at h1
    rw [← h1]
    simp only [ai, ak]⟩
  have qi : ∀ z, rfC A i (rfC A k (rfC A i (rfC A k (rfC A i (rfC A k (rfC A i (rfC A k (rfC A i (rfC A k (rfC A i (rfC A k (rfC A i z)))))))))))) = rfC A i z := fun z => by rw [dk z]
  have li : ∀ y : OpV, ((fun z => rfC A k (rfC A i (rfC A k (rfC A i (rfC A k (rfC A i (y (rfC A i (rfC A k (rfC A i (rfC A k (rfC A i (rfC A k z))))))))))))) = rfC A i) = (y = rfC A i) := fun y => propext ⟨fun h => by
    funext z
    have h1 := congrFun h (rfC A k (rfC A i (rfC A k (rfC A i (rfC A k (rfC A i z))))))
    simp only [ai, ak] at h1
    have h2 := congrArg (fun x => rfC A i (rfC A k (rfC A i (rfC A k (rfC A i (rfC A k x)))))) h1
    simp only [ai, ak] at h2
    rw [h2]; exact qi z, fun h => by
    subst h; funext z
    have h1 := qi (rfC A i (rfC A k (rfC A i (rfC A k (rfC A i (rfC A k z))))))
    simp only [ai, ak] at h1
    rw [← h1]
    simp only [ai, ak]⟩
  have lm : ∀ y : OpV, ((fun z => rfC A k (rfC A i (rfC A k (rfC A i (rfC A k (y (rfC A k (rfC A i (rfC A k (rfC A i (rfC A k z))))))))))) = rfC A i) = (y = rfC A i) := fun y => propext ⟨fun h => by
    funext z
    have h1 := congrFun h (rfC A k (rfC A i (rfC A k (rfC A i (rfC A k z)))))
    simp only [ai, ak] at h1
    have h2 := congrArg (fun x => rfC A k (rfC A i (rfC A k (rfC A i (rfC A k x))))) h1
    simp only [ai, ak] at h2
    rw [h2]; exact hb z, fun h => by
    subst h; funext z
    have h1 := hb (rfC A k (rfC A i (rfC A k (rfC A i (rfC A k z)))))
    simp only [ai, ak] at h1
    rw [← h1]
    simp only [ai, ak]⟩
  funext t
  simp only [markS]
  have e1 := lk (t)
  have e2 := li (fun z => rfC A k (t (rfC A k z)))
  have e3 := lk (fun z => rfC A i (rfC A k (t (rfC A k (rfC A i z)))))
  have e4 := li (fun z => rfC A k (rfC A i (rfC A k (t (rfC A k (rfC A i (rfC A k z)))))))
  have e5 := lk (fun z => rfC A i (rfC A k (rfC A i (rfC A k (t (rfC A k (rfC A i (rfC A k (rfC A i z)))))))))
  have em := lm t
  simp only [e1, e2, e3, e4, e5]
  simp only [em, hb]
  exact xor_6 _ _ _ _ _ _ _
end braid
theorem brd_mark {n : Nat} {A : Nat → Nat → Int} (g : Gcm n A) : Brd n A (markS A) where
  twice i hi η := mark_twice (g.diag i hi) η
  b00 i k hi hk hik hki η := mark_00 (g.diag i hi) (g.diag k hk) hik hki η
  b11 i k hi hk hik hki η := mark_11 (g.diag i hi) (g.diag k hk) hik hki η
  b12 i k hi hk hik hki η := mark_12 (g.diag i hi) (g.diag k hk) hik hki η
  b21 i k hi hk hik hki η := mark_21 (g.diag i hi) (g.diag k hk) hik hki η
  b13 i k hi hk hik hki η := mark_13 (g.diag i hi) (g.diag k hk) hik hki η
  b31 i k hi hk hik hki η := mark_31 (g.diag i hi) (g.diag k hk) hik hki η
/-- The marks of a word. -/
noncomputable def marks (A : Nat → Nat → Int) (ws : List Nat) : OpV → Bool := ws.foldr (markS A) (fun _ => false)
/-- What is marked strikes one letter of the word. -/
theorem mark_strikes {n : Nat} {A : Nat → Nat → Int} (g : Gcm n A) : ∀ (ws : List Nat), InN n ws → ∀ t : OpV, marks A ws t = true → ∃ j, j < ws.length ∧ ∀ z, t (mapN A ws z) = mapN A (ws.eraseIdx j) z
  | [], _, t, h => absurd h (by simp [marks])
  | k :: ws, hw, t, h => by
    have hk := hw k (List.mem_cons_self ..)
    have ha := rfC_twice (A := A) (i := k) (g.diag k hk)
    by_cases ht : t = rfC A k
    · refine ⟨0, by simp, fun z => ?_⟩
      rw [ht]
      exact ha _
    · have h1 : marks A ws (fun z => rfC A k (t (rfC A k z))) = true := by
        have h2 : marks A (k :: ws) t = xor (tf (t = rfC A k)) (marks A ws (fun z => rfC A k (t (rfC A k z)))) := rfl
        rw [h2, tf_no ht] at h
        simpa using h
      obtain ⟨j, hj, hz⟩ := mark_strikes g ws (fun i hi => hw i (List.mem_cons_of_mem _ hi)) _ h1
      refine ⟨j + 1, by simp; omega, fun z => ?_⟩
      have h3 := hz z
      have h4 := congrArg (rfC A k) h3
      rw [ha] at h4
      exact h4
/-- The exchange. -/
theorem exchange {n : Nat} {A : Nat → Nat → Int} (g : Gcm n A) {ws : List Nat} (hw : InN n ws) {i : Nat} (hi : i < n) (hv : mapN A ws onesV i < 0) : ∃ j, j < ws.length ∧ ∀ z, mapN A (i :: ws) z = mapN A (ws.eraseIdx j) z := by
  obtain ⟨L, hL, _⟩ := len_has g hw
  obtain ⟨L', rfl, hd⟩ := dn_down g hL hi hv
  obtain ⟨x, x1, x2, x3, x4⟩ := dn_path g hd
  have hix : InN n (i :: x) := fun j hj => by
    rcases List.mem_cons.1 hj with e | hm
    · rw [e]; exact hi
    · exact x2 j hm
  have himg : ws.foldr (rfC A) onesV = (i :: x).foldr (rfC A) onesV := by
    have h1 : rfC A i (rfC A i (mapN A ws onesV)) = rfC A i (mapN A x onesV) := congrArg (rfC A i) x4
    rw [rfC_twice (g.diag i hi)] at h1
    exact h1
  have hm := gword_same g (brd_mark g) (fun _ => false) hw hix himg
  have h2 : marks A ws (rfC A i) = xor (tf (rfC A i = rfC A i)) (marks A x (fun z => rfC A i (rfC A i (rfC A i z)))) := congrFun hm (rfC A i)
  have h3 : (fun z => rfC A i (rfC A i (rfC A i z))) = rfC A i := by funext z; rw [rfC_twice (g.diag i hi)]
  rw [h3, tf_yes rfl] at h2
  have h4 : marks A x (rfC A i) = false := by
    cases hx : marks A x (rfC A i) with
    | false => rfl
    | true =>
      obtain ⟨j, hj, hz⟩ := mark_strikes g x x2 _ hx
      have hl := len_least g (a := ws) (b := x.eraseIdx j) (fun q hq => x2 q (List.mem_of_mem_eraseIdx hq)) hL (fun z => by
        have h5 := congrFun (gword_same g (brd_map g) id hw hix himg) z
        rw [map_foldr, map_foldr] at h5
        have h6 : mapN A ws z = rfC A i (mapN A x z) := h5
        rw [h6, hz])
      have he : (x.eraseIdx j).length = x.length - 1 := List.length_eraseIdx_of_lt hj
      omega
  rw [h4] at h2
  exact mark_strikes g ws hw _ (by rw [h2]; rfl)
end Go.Proofs.Ytbmghddmilgngaa
namespace Go.Proofs.Ytbmghddmilgngaa
open Go.RowKit

/-- A word that is as short as its element. -/
def Red (n : Nat) (A : Nat → Nat → Int) (ws : List Nat) : Prop := Len n A ws ws.length
theorem inN_tail {n i : Nat} {ws : List Nat} (h : InN n (i :: ws)) : InN n ws := fun k hk => h k (List.mem_cons_of_mem _ hk)
theorem inN_erase {n : Nat} {ws : List Nat} (h : InN n ws) (j : Nat) : InN n (ws.eraseIdx j) := fun k hk => h k (List.mem_of_mem_eraseIdx hk)
/-- The end of a reduced word is reduced. -/
theorem red_tail {n : Nat} {A : Nat → Nat → Int} (g : Gcm n A) {i : Nat} {ws : List Nat} (hw : InN n (i :: ws)) (h : Red n A (i :: ws)) : Red n A ws := by
  obtain ⟨L, hL, hl, _⟩ := len_has g (inN_tail hw)
  have hf := len_front g (hw i (List.mem_cons_self ..)) hL h
  simp only [List.length_cons] at hf
  have : L = ws.length := by
    rcases Int.lt_or_gt_of_ne hf.1 with h0 | h0
    · have := hf.2.2 h0; omega
    · have := hf.2.1 h0; omega
  subst this; exact hL
/-- Two letters to strike. -/
theorem deletion {n : Nat} {A : Nat → Nat → Int} (g : Gcm n A) : ∀ (ws : List Nat), InN n ws → ¬ Red n A ws → ∃ a b, a < b ∧ b < ws.length ∧ ∀ z, mapN A ws z = mapN A ((ws.eraseIdx b).eraseIdx a) z
  | [], _, h => absurd (show Red n A [] from .zero) h
  | i :: ws, hw, h => by
    have hi := hw i (List.mem_cons_self ..)
    have hw' := inN_tail hw
    by_cases hr : Red n A ws
    · by_cases h0 : 0 < mapN A ws onesV i
      · exact absurd (dn_up (g.diag i hi) hr hi h0) h
      · have hne := dn_ne g hr hi
        obtain ⟨j, hj, hz⟩ := exchange g hw' hi (by omega)
        exact ⟨0, j + 1, by omega, by simp; omega, fun z => by rw [hz]; rfl⟩
    · obtain ⟨a, b, hab, hb, hz⟩ := deletion g ws hw' hr
      refine ⟨a + 1, b + 1, by omega, by simp; omega, fun z => ?_⟩
      have := congrArg (rfC A i) (hz z)
      exact this
/-- In a reduced word, what the exchange strikes leaves a reduced word. -/
theorem exchange_red {n : Nat} {A : Nat → Nat → Int} (g : Gcm n A) {ws : List Nat} (hw : InN n ws) (hr : Red n A ws) {i : Nat} (hi : i < n) (hv : mapN A ws onesV i < 0) : ∃ j, j < ws.length ∧ (∀ z, mapN A (i :: ws) z = mapN A (ws.eraseIdx j) z) ∧ Red n A (ws.eraseIdx j) := by
  obtain ⟨j, hj, hz⟩ := exchange g hw hi hv
  refine ⟨j, hj, hz, ?_⟩
  obtain ⟨L', hL, hd⟩ := dn_down g hr hi hv
  have h1 : Len n A (i :: ws) L' := hd
  have h2 := len_same h1 hz
  have he : (ws.eraseIdx j).length = ws.length - 1 := List.length_eraseIdx_of_lt hj
  unfold Red
  rw [he]
  have : L' = ws.length - 1 := by omega
  rw [← this]; exact h2
/-- In a reduced word only one letter serves. -/
theorem exchange_one {n : Nat} {A : Nat → Nat → Int} (g : Gcm n A) {ws : List Nat} (hw : InN n ws) (hr : Red n A ws) {a b : Nat} (hab : a < b) (hb : b < ws.length) (h : ∀ z, mapN A (ws.eraseIdx a) z = mapN A (ws.eraseIdx b) z) : False := by
  induction ws generalizing a b with
  | nil => exact absurd hb (Nat.not_lt_zero _)
  | cons i ws ih =>
    have hi := hw i (List.mem_cons_self ..)
    have ha := rfC_twice (A := A) (i := i) (g.diag i hi)
    cases b with
    | zero => omega
    | succ b =>
      cases a with
      | succ a =>
        refine ih (inN_tail hw) (red_tail g hw hr) (a := a) (b := b) (by omega) (by simpa using hb) (fun z => ?_)
        have h1 := congrArg (rfC A i) (h z)
        have e1 : mapN A ((i :: ws).eraseIdx (a + 1)) z = rfC A i (mapN A (ws.eraseIdx a) z) := rfl
        have e2 : mapN A ((i :: ws).eraseIdx (b + 1)) z = rfC A i (mapN A (ws.eraseIdx b) z) := rfl
        rw [e1, e2, ha, ha] at h1
        exact h1
      | zero =>
        have hb' : b < ws.length := by simpa using hb
        have h1 : ∀ z, mapN A (i :: ws) z = mapN A (ws.eraseIdx b) z := fun z => by
          have h2 := h z
          have e1 : mapN A ((i :: ws).eraseIdx 0) z = mapN A ws z := rfl
          have e2 : mapN A ((i :: ws).eraseIdx (b + 1)) z = rfC A i (mapN A (ws.eraseIdx b) z) := rfl
          rw [e1, e2] at h2
          have h3 : mapN A (i :: ws) z = rfC A i (mapN A ws z) := rfl
          rw [h3, h2, ha]
        have h2 := len_least g (inN_erase (inN_tail hw) b) hr h1
        have h3 : (ws.eraseIdx b).length = ws.length - 1 := List.length_eraseIdx_of_lt hb'
        simp only [List.length_cons] at h2
        omega
end Go.Proofs.Ytbmghddmilgngaa
