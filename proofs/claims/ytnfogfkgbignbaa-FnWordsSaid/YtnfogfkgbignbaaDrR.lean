/-
  What the draws leave alone: rows and matrices of the call's own.
-/
import Derived.Test.YtnfogfkgbignbaaAny
namespace Go.Proofs.Ytnfogfkgbignbaa
open Go.RowKit

theorem grown_of_below {w w' : World} {S : Option Nat} (h : Below w.heap.size w w') : w.grownBy w' S := ⟨h.os, h.tape, h.output, h.size, fun j hj _ => h.block j hj⟩
theorem RowI.drawn {A B C : Nat} {cv v : Value} {len : Nat} {w w' : World} {l : List Int} (h : RowI A w.heap.size w v l) (hC : C < A) (hd : DrTo B C cv len w w') : RowI A w'.heap.size w' v l :=
  (h.grown hd.2 (by
    cases hv : v.ownBlock with
    | none => exact Or.inl rfl
    | some g =>
      right
      intro e
      have h1 := (h.1.lt g hv).1
      have h2 : g = C := Option.some.inj e
      omega)).mono (Nat.le_refl _) hd.2.size
theorem OwnK.wide {A A' B : Nat} {w : World} {v : Value} {m : List (List Int)} (h : OwnK A B w v m) (hA : A' ≤ A) : OwnK A' B w v m := ⟨fun w' hs => h.1 w' (fun k h1 h2 => hs k (by omega) h2), h.2⟩
theorem OwnK.grow {A B : Nat} {w : World} {v : Value} {m : List (List Int)} (h : OwnK A B w v m) : OwnK A w.heap.size w v m :=
  ⟨fun w' hs => by
    have h1 := h.1 w' (fun k h1 h2 => hs k h1 (by have := h.2; omega))
    exact h1.mono h.2, Nat.le_refl _⟩
theorem OwnK.on {A B C : Nat} {w w' : World} {v : Value} {m : List (List Int)} (h : OwnK A B w v m) (hg : w.grownBy w' (some C)) (hC : C < A) : OwnK A w'.heap.size w' v m :=
  (h.same (fun j h1 h2 => hg.block j (by have := h.2; omega) (fun e => by have := Option.some.inj e; omega)) hg.size).grow
theorem OwnK.up {A B : Nat} {w w' : World} {v : Value} {m : List (List Int)} (h : OwnK A B w v m) (hb : Below w.heap.size w w') : OwnK A w'.heap.size w' v m :=
  (h.same (fun j _ h2 => hb.block j (by have := h.2; omega)) hb.size).grow
end Go.Proofs.Ytnfogfkgbignbaa
