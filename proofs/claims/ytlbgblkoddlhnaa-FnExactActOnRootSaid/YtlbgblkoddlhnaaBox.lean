/-
  Boxed variables and loops' records: what stays as it was (over any program but for the rows' type).
-/
import Derived.Test.YtlbgblkoddlhnaaRange
import Derived.Test.YtlbgblkoddlhnaaGrow
namespace Go.Proofs.Ytlbgblkoddlhnaa
open Go.RowKit Go.Shelf
attribute [local go_sem] Oper.semAt_some

theorem boxed_other {W : World} {B B' : Nat} {t : TypeId} {v : Value} (h : Boxed W B t v) (hne : B ≠ B') (u : Value) : Boxed (W.setCell ⟨B', 0, none⟩ u) B t v := h.kept (grownBy_setCell' W B' u) (fun e => hne (Option.some.inj e))
theorem boxed_below {W W' : World} {b A : Nat} {t : TypeId} {v : Value} (h : Boxed W b t v) (hb : Below A W W') (hA : b < A) : Boxed W' b t v := (hb.block b hA).trans h
theorem GivesB.inRound {F : Fence} {n : Nat} {P : Program} {g : Nat} {lb : Array Value} {xs : List (Array Value)} {R : Nat → World → Prop} {Ab : World → World → Prop} (l : Nat) (h : GivesB F n P g lb xs R Ab) : GivesB (F.inRound l) n P g lb xs R Ab := h
theorem enter_outer {P : Program} {W : World} {l D : Nat} (hD : W.heap.size = D) (hl : l = D + 1) (fn : FuncId) (tmps : Array Value) (ps : Array Tmp) (assign body : Code) :
    (Instr.enterLoop fn tmps ps assign body none).run P W = .ok (l, [{ target := .collected D, args := #[] }]) ((W.alloc (.deferred (some []))).alloc (.loop { state := .ready, pending := none, fn := fn, tmps := tmps, params := ps, assign := assign, body := body, defers := D })) := by
  subst hD hl; exact run_enterLoop_outer ..
theorem heap_last {W : World} {l : Nat} (hl : W.heap.size = l) (o : Obj) : (W.alloc o).heap[l]? = some o := by subst hl; exact World.alloc_heap_new _ _
theorem enter_inner {P : Program} {W : World} {l : Nat} (hl : W.heap.size = l) {l0 : Nat} {r0 : Loop} (h : W.heap[l0]? = some (.loop r0)) (fn : FuncId) (tmps : Array Value) (ps : Array Tmp) (assign body : Code) :
    (Instr.enterLoop fn tmps ps assign body (some l0)).run P W = .ok (l, []) (W.alloc (.loop { state := .ready, pending := none, fn := fn, tmps := tmps, params := ps, assign := assign, body := body, defers := r0.defers })) := by
  subst hl; exact run_enterLoop_inner h ..
def nilS : Value := .slice none 0 0
theorem sameIn_grownD {A B x : Nat} {W W' : World} (hg : W.grownBy W' (some x)) (hB : B ≤ W.heap.size) (hx : x < A) : SameIn A B W W' := fun k h1 h2 => hg.block k (by omega) (fun e => by have := Option.some.inj e; omega)
theorem heap_grown {W W' : World} {x k : Nat} {o : Obj} (h : W.heap[k]? = some o) (hg : W.grownBy W' (some x)) (hx : k ≠ x) : W'.heap[k]? = some o :=
  (hg.block k (Array.getElem?_eq_some_iff.1 h).1 (fun e => hx (Option.some.inj e))).trans h
theorem RowI.other {A B x : Nat} {W W' : World} {v : Value} {l : List Int} (h : RowI A B W v l) (hg : W.grownBy W' (some x)) (hx : x < A) : RowI A B W' v l :=
  h.grown hg (by
    cases hv : v.ownBlock with
    | none => exact .inl rfl
    | some g => exact .inr fun e => by have h1 := (h.1.lt g hv).1; have := Option.some.inj e; omega)
end Go.Proofs.Ytlbgblkoddlhnaa
