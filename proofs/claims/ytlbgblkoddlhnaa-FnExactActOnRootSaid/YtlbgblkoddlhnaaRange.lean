/-
  A range over a function whose iterator keeps state in cells of its own, and hands over a list that is known beforehand (over any program): what the iterator owes, and the statement's law.
-/
import Derived.RangeFuncNested
import Derived.RangeFuncBound
import Derived.RangeFuncCalls
import Derived.RangeFuncLeaves
import Derived.Shelf.Abstract
import Derived.WalkKit
import Derived.OwnWalkIn
import Derived.TacticsInMore
import Derived.LoopNIn
import Derived.LoopIn
namespace Go.Proofs.Ytlbgblkoddlhnaa
open Go.RowKit Go.Shelf

/-- What the iterator owes: R k: its own cells before element k is handed over; Ab: a step of its own. -/
def GivesB (F : Fence) (n : Nat) (P : Program) (g : Nat) (lb : Array Value) (xs : List (Array Value)) (R : Nat → World → Prop) (Ab : World → World → Prop) : Prop :=
  ∀ (l : Nat) (J : Nat → World → Prop) (Jx : World → Prop) (W : World), (∀ k A B, J k A → Ab A B → J k B) →
    (∀ k (h : k < xs.length) W1, J k W1 → R k W1 → YieldAt F (n - 1) P l xs[k] W1 fun e W' => (e = .returned (.bool true) ∧ J (k + 1) W' ∧ R k W') ∨ (e = .returned (.bool false) ∧ Jx W')) →
    J 0 W → R 0 W → CallsIn F n P g (#[.func (.yield l) #[] #[]] ++ lb) W fun e W' => (∃ v, e = .returned v) ∧ (J xs.length W' ∨ Jx W')

/-- What is asked behind a round's body: it goes on, or it returns; the loop's record lies as it lay. -/
def roundEnd (l : Nat) (o : Option Obj) (I R Ix : World → Prop) : Exit → Act → World → Prop
  | .normal, _, W' => W'.heap[l]? = o ∧ I W' ∧ R W'
  | .ret, _, W' => W'.heap[l]? = o ∧ Ix W'
  | _, _, _ => False

theorem range_gives {F : Fence} {n : Nat} {P : Program} {g : Operand} {ps : Array Tmp} {assign body : Code} {Q : Exit → Act → World → Prop} {a : Act} {w : World}
    (h1 : 1 ≤ n) {gf : Nat} {lb : Array Value} (hg : a.eval g = .func (.func gf) #[] lb) (hFg : F.fn gf) (eg : ∀ args w, (callFunc gf args).run P w = .ok (.enter gf args) w)
    {xs : List (Array Value)} {R : Nat → World → Prop} {Ab : World → World → Prop} (hseq : GivesB F (n - 1) P gf lb xs R Ab) (hps : ∀ x ∈ xs, x.size = ps.size)
    (l D : Nat) (mark : List Deferred) (W1 : FuncId → World) (he : ∀ fn, (Instr.enterLoop fn a.tmps ps assign body F.round).run P w = .ok (l, mark) (W1 fn))
    (hl : ∀ fn, (W1 fn).heap[l]? = some (.loop { state := .ready, pending := none, fn := fn, tmps := a.tmps, params := ps, assign := assign, body := body, defers := D }))
    (I : Nat → World → Prop) (Ix : World → Prop)
    (hIp : ∀ k W r r', I k W → W.heap[l]? = some (.loop r) → I k (W.putObj l (.loop r'))) (hXp : ∀ W r r', Ix W → W.heap[l]? = some (.loop r) → Ix (W.putObj l (.loop r')))
    (hRp : ∀ k W r r', R k W → W.heap[l]? = some (.loop r) → R k (W.putObj l (.loop r'))) (hIa : ∀ k A B, I k A → Ab A B → I k B) (hla : ∀ A B, Ab A B → B.heap[l]? = A.heap[l]?)
    (h0 : ∀ fn, I 0 (W1 fn) ∧ R 0 (W1 fn)) (act : (k : Nat) → k < xs.length → Act)
    (hassign : ∀ k (h : k < xs.length) W (K : Act → World → Prop), K (act k h) W → assign.wpIn (F.inRound l) (n - 1 - 1) P (Exit.then K (fun _ _ _ => False)) { tmps := (ps.zip xs[k]).foldl (fun t (p, v) => t.setIfInBounds p v) a.tmps, defers := [] } W)
    (hbody : ∀ k (h : k < xs.length) W r, W.heap[l]? = some (.loop r) → I k W → R k W → body.wpIn (F.inRound l) (n - 1 - 1) P (roundEnd l (some (.loop r)) (I (k + 1)) (R k) Ix) (act k h) W)
    (hdone : ∀ W, I xs.length W → Q .normal { a with defers := mark ++ a.defers } W) (hstop : ∀ W, Ix W → Code.ret.wpIn F n P Q { a with defers := mark ++ a.defers } W) :
    (Code.rangeFunc g ps assign body).wpIn F n P Q a w := by
  refine wpIn_rangeFunc fun fn hfn => ?_
  obtain ⟨rec, hrec⟩ : ∃ rec : LoopState → Option Code → Loop, rec = fun st pe => { state := st, pending := pe, fn := fn, tmps := a.tmps, params := ps, assign := assign, body := body, defers := D } := ⟨_, rfl⟩
  have hl0 : (W1 fn).heap[l]? = some (.loop (rec .ready none)) := by rw [hrec]; exact hl fn
  refine ⟨l, mark, W1 fn, { target := .fn (.func gf) lb, args := #[.func (.yield l) #[] #[]] }, W1 fn, gf, #[.func (.yield l) #[] #[]] ++ lb, W1 fn, he fn, ?_, ?_, ?_, fun _ => h1, ?_⟩
  · simp only [resolve, hg]
    simp [go_sem]
  · intro f' hf'
    simp [Target.leads] at hf'
    subst hf'
    exact hFg
  · simp [invoke, go_sem, eg]
  · refine (hseq l (fun k W => I k W ∧ W.heap[l]? = some (.loop (rec .ready none))) (fun W => Ix W ∧ W.heap[l]? = some (.loop (rec .done (some .ret)))) (W1 fn)
      (fun k A B hj hab => ⟨hIa k A B hj.1 hab, (hla A B hab).trans hj.2⟩) (fun k hk W hj hr => ?_) ⟨(h0 fn).1, hl0⟩ (h0 fn).2).mono ?_
    · obtain ⟨hi, hrl⟩ := hj
      have hlt : l < W.heap.size := (Array.getElem?_eq_some_iff.1 hrl).1
      have hy := run_yield (P := P) (args := xs[k]) hrl (by rw [hrec]; exact hps _ (List.getElem_mem hk))
      rw [hrec] at hy
      refine ⟨fn, _, assign, body, hy, roundIn_of_wpIn hfn (hassign k hk W _ ?_)⟩
      refine ⟨_, run_beginRound hrl (by rw [hrec]), ?_⟩
      have hl2 : (W.putObj l (.loop { rec .ready none with state := .busy })).heap[l]? = some (.loop { rec .ready none with state := .busy }) := World.putObj_heap_same hlt
      refine wpIn_mono (hbody k hk _ _ hl2 (hIp k W _ _ hi hrl) (hRp k W _ _ hr hrl)) ?_
      rintro e a3 W3 hp
      cases e with
      | normal =>
        obtain ⟨hl3, hi3, hr3⟩ := hp
        have hlt3 : l < W3.heap.size := (Array.getElem?_eq_some_iff.1 hl3).1
        have hend := run_endRound (P := P) none hl3
        refine ⟨_, _, hend, .inl ⟨rfl, ⟨hIp _ _ _ _ hi3 hl3, ?_⟩, hRp _ _ _ _ hr3 hl3⟩⟩
        rw [World.putObj_heap_same hlt3, hrec]; rfl
      | ret =>
        obtain ⟨hl3, hi3⟩ := hp
        have hlt3 : l < W3.heap.size := (Array.getElem?_eq_some_iff.1 hl3).1
        have hend := run_endRound (P := P) (some .ret) hl3
        refine ⟨_, _, hend, .inr ⟨rfl, hXp _ _ _ hi3 hl3, ?_⟩⟩
        rw [World.putObj_heap_same hlt3, hrec]; rfl
      | exit id => exact hp.elim
      | goto t => exact hp.elim
      | panic ch => exact hp.elim
      | outgrown => exact hp.elim
    · rintro e W2 ⟨⟨v, rfl⟩, (⟨hi, hrl⟩ | ⟨hi, hrl⟩)⟩
      · have hend := run_endLoop (P := P) hrl (by rw [hrec]; simp)
        have hpe : (rec .ready none).pending = none := by rw [hrec]
        rw [hpe] at hend
        exact ⟨none, _, hend, hdone _ (hIp _ _ _ _ hi hrl)⟩
      · have hend := run_endLoop (P := P) hrl (by rw [hrec]; simp)
        have hpe : (rec .done (some .ret)).pending = some .ret := by rw [hrec]
        rw [hpe] at hend
        exact ⟨some .ret, _, hend, hstop _ (hXp _ _ _ hi hrl)⟩
end Go.Proofs.Ytlbgblkoddlhnaa
