/-
  What the laws' walks carry from call to call: the values of the call's own, and what each call leaves as it was.
-/
import Derived.Test.YtlbgblkoddlhnabDoorMark
import Derived.Test.YtlbgblkoddlhnabDoorMat
namespace Go.Proofs.YtlbgblkoddlhnabDoor
open Go.RowKit

theorem below_drewN {w : World} (q : Nat) : Below w.heap.size w (w.drewN q) := ⟨rfl, rfl, rfl, Nat.le_refl _, fun _ _ => rfl⟩
/-- A matrix of the call's own, all of it laid. -/
def OwnM (A B : Nat) (w : World) (v : Value) (m : List (List Int)) : Prop := MatI A B w v m ∧ B ≤ w.heap.size
theorem OwnM.step {A B : Nat} {w w' : World} {v : Value} {m : List (List Int)} (h : OwnM A B w v m) (hb : Below w.heap.size w w') : OwnM A B w' v m :=
  ⟨h.1.same (SameIn.of_below hb h.2), Nat.le_trans h.2 hb.size⟩
theorem OwnM.only {A B C D : Nat} {w w' : World} {v : Value} {m : List (List Int)} (h : OwnM A B w v m) (ho : Only C D w w') (hd : B ≤ C ∨ D ≤ A) : OwnM A B w' v m :=
  ⟨h.1.same (ho.sameIn hd), by rw [ho.size]; exact h.2⟩
theorem OwnM.matB {A B : Nat} {w : World} {v : Value} {m : List (List Int)} (h : OwnM A B w v m) : MatB B w v m := h.1.matB
/-- A list of the call's own. -/
def OwnS (A B : Nat) (w : World) (v : Value) (l : List Int) : Prop := RowI A B w v l ∧ B ≤ w.heap.size
theorem OwnS.step {A B : Nat} {w w' : World} {v : Value} {l : List Int} (h : OwnS A B w v l) (hb : Below w.heap.size w w') : OwnS A B w' v l :=
  ⟨h.1.same (SameIn.of_below hb h.2), Nat.le_trans h.2 hb.size⟩
theorem OwnS.only {A B C D : Nat} {w w' : World} {v : Value} {l : List Int} (h : OwnS A B w v l) (ho : Only C D w w') (hd : B ≤ C ∨ D ≤ A) : OwnS A B w' v l :=
  ⟨h.1.same (ho.sameIn hd), by rw [ho.size]; exact h.2⟩
theorem OwnS.rowB {A B : Nat} {w : World} {v : Value} {l : List Int} (h : OwnS A B w v l) : RowB B w v l := h.1.rowB
theorem fit_of_small {m : List (List Int)} (h : Small m) : RowsFit m := ⟨by have := h.1; unfold maxLen; omega, fun j hj => by have := h.2 j hj; unfold maxLen; omega⟩

/-- What a call that makes a matrix leaves. -/
def MakesM (w : World) (m : List (List Int)) (e : Ending) (w' : World) : Prop := ∃ x, e = .returned x ∧ OwnM w.heap.size w'.heap.size w' x m ∧ Below w.heap.size w w'
def MakesS (w : World) (l : List Int) (e : Ending) (w' : World) : Prop := ∃ x, e = .returned x ∧ OwnS w.heap.size w'.heap.size w' x l ∧ Below w.heap.size w w'
/-- The same with a second result. -/
def MakesM2 (w : World) (m : List (List Int)) (y : Value) (e : Ending) (w' : World) : Prop := ∃ x, e = .returned (.tuple #[x, y]) ∧ OwnM w.heap.size w'.heap.size w' x m ∧ Below w.heap.size w w'
def MakesS2 (w : World) (l : List Int) (y : Value) (e : Ending) (w' : World) : Prop := ∃ x, e = .returned (.tuple #[x, y]) ∧ OwnS w.heap.size w'.heap.size w' x l ∧ Below w.heap.size w w'

theorem toM_own (B : Nat) (v : Value) (m : List (List Int)) (w : World) (h : MatB B w v m) (hB : B ≤ w.heap.size) (hs : Small m) :
    Calls Tryd.prog 6 #[v] w (MakesM w m) :=
  (toSS_any B v m w h hB hs).mono fun e w' ⟨he, hc, hb⟩ => ⟨_, he, ⟨by have h2 := hc.matI hs; have := hc.2.1; exact h2.mono (Nat.le_refl _) (by omega), Nat.le_refl _⟩, hb⟩
theorem toL_own (B : Nat) (v : Value) (l : List Int) (w : World) (h : RowB B w v l) (hB : B ≤ w.heap.size) (hs : l.length ≤ 1048576) :
    Calls Tryd.prog 11 #[v] w (MakesS w l) :=
  (toS_any B v l w h hB hs).mono fun e w' ⟨he, hw⟩ => by
    subst hw
    refine ⟨_, he, ⟨⟨⟨by rw [intsV_len]; omega, Or.inr ⟨w.heap.size, l.length, _, rfl, Nat.le_refl _, (MapKept.heap_alloc w _).1, Nat.le_refl _, by unfold maxLen; omega, by simp [intsV_len], ?_⟩⟩, fun g hg => ?_⟩, Nat.le_refl _⟩, (Below.refl _ _).alloc (Nat.le_refl _) _⟩
    · rw [List.take_of_length_le]; simp [intsV_len]
    · have : w.heap.size = g := by simpa [Value.ownBlock] using hg
      simp; omega
/-- Marks in a matrix of the call's own. -/
def Marks (A B : Nat) (m : List (List Int)) (k : Nat) (v : Value) (w : World) (e : Ending) (w' : World) : Prop :=
  e = .returned (.int .i64 ((k + (m.map List.length).sum : Nat) : Int)) ∧ OwnM A B w' v (markM m k) ∧ Only A B w w'
def MarksS (A B : Nat) (l : List Int) (k : Nat) (v : Value) (w : World) (e : Ending) (w' : World) : Prop :=
  e = .returned (.int .i64 ((k + l.length : Nat) : Int)) ∧ OwnS A B w' v (markL k l.length) ∧ Only A B w w'
/-- Equality, as the laws ask it: both the same. -/
theorem eqM_same (B B' : Nat) (v v' : Value) (m : List (List Int)) (w : World) (h : MatB B w v m) (h' : MatB B' w v' m) (hf : RowsFit m) :
    Calls Tryd.prog 8 #[v, v'] w fun e w' => e = .returned (.bool true) ∧ ∃ q, w' = w.drewN q :=
  (eqSS_any (max B B') v v' m m w (h.mono (Nat.le_max_left _ _)) (h'.mono (Nat.le_max_right _ _)) hf hf).mono fun e w' ⟨h1, h2⟩ => ⟨by rw [h1, eqM_yes rfl], h2⟩
theorem eqL_same (B B' : Nat) (v v' : Value) (l : List Int) (w : World) (h : RowB B w v l) (h' : RowB B' w v' l) (hf : l.length ≤ maxLen) :
    Calls Tryd.prog 14 #[v, v'] w fun e w' => e = .returned (.bool true) ∧ ∃ q, w' = w.drewN q :=
  (eqS_any (max B B') v v' l l w (h.mono (Nat.le_max_left _ _)) (h'.mono (Nat.le_max_right _ _)) hf hf).mono fun e w' ⟨h1, h2⟩ => ⟨by rw [h1, eqL_yes rfl], h2⟩
end Go.Proofs.YtlbgblkoddlhnabDoor
