/-
  ParseCartan of the program: what the call returns.
  What the law on matrices asks of a type's name.
-/
import Derived.Test.YtppimgkampkfjaaGreatDoorFcg33
import Derived.Test.YtppimgkampkfjaaGreatDoorFcg29
import Derived.Test.YtppimgkampkfjaaGreatDoorFcg36
import Derived.Test.YtppimgkampkfjaaGreatDoorFcg37
namespace Go.Proofs.YtppimgkampkfjaaGreatDoor
open Go.RowKit Go.Shelf
attribute [local go_sem] Oper.semAt_some

theorem boxed_other {W : World} {B B' : Nat} {t : TypeId} {v : Value} (h : Boxed W B t v) (hne : B ≠ B') (u : Value) : Boxed (W.setCell ⟨B', 0, none⟩ u) B t v := h.kept (grownBy_setCell' W B' u) (fun e => hne (Option.some.inj e))
theorem boxed_below {W W' : World} {b A : Nat} {t : TypeId} {v : Value} (h : Boxed W b t v) (hb : Below A W W') (hA : b < A) : Boxed W' b t v := (hb.block b hA).trans h

theorem GivesB.inRound {F : Fence} {n : Nat} {P : Program} {g : Nat} {lb : Array Value} {xs : List (Array Value)} {R : Nat → World → Prop} {Ab : World → World → Prop} (l : Nat) (h : GivesB F n P g lb xs R Ab) : GivesB (F.inRound l) n P g lb xs R Ab := h
theorem SplitR.grown {c : UInt8} {l : List UInt8} {B k x : Nat} {W W' : World} (h : SplitR c l B k W) (hg : W.grownBy W' (some x)) (hx : x < B ∨ B + 2 < x) : SplitR c l B k W' :=
  h.mono fun b t v h1 h2 hb => hb.kept hg (fun e => by have := Option.some.inj e; omega)
theorem SplitR.below {c : UInt8} {l : List UInt8} {B k A : Nat} {W W' : World} (h : SplitR c l B k W) (hb : Below A W W') (hA : B + 2 < A) : SplitR c l B k W' :=
  h.mono fun b t v h1 h2 hx => boxed_below hx hb (by omega)
theorem map_get (xs : List (List UInt8)) (k : Nat) (h : k < (xs.map fun x => #[strL x]).length) : (xs.map fun x => #[strL x])[k] = #[strL (xs.getD k [])] := by
  have h' : k < xs.length := by simpa using h
  simp [List.getD, h']
theorem getD_mem {xs : List (List UInt8)} {k : Nat} (h : k < (xs.map fun x => #[strL x]).length) : xs.getD k [] ∈ xs := by
  have h' : k < xs.length := by simpa using h
  simp [List.getD, h']

theorem enter_outer {P : Program} {W : World} {l D : Nat} (hD : W.heap.size = D) (hl : l = D + 1) (fn : FuncId) (tmps : Array Value) (ps : Array Tmp) (assign body : Code) :
    (Instr.enterLoop fn tmps ps assign body none).run P W = .ok (l, [{ target := .collected D, args := #[] }]) ((W.alloc (.deferred (some []))).alloc (.loop { state := .ready, pending := none, fn := fn, tmps := tmps, params := ps, assign := assign, body := body, defers := D })) := by
  subst hD hl; exact run_enterLoop_outer ..
theorem heap_last {W : World} {l : Nat} (hl : W.heap.size = l) (o : Obj) : (W.alloc o).heap[l]? = some o := by subst hl; exact World.alloc_heap_new _ _
theorem enter_inner {P : Program} {W : World} {l : Nat} (hl : W.heap.size = l) {l0 : Nat} {r0 : Loop} (h : W.heap[l0]? = some (.loop r0)) (fn : FuncId) (tmps : Array Value) (ps : Array Tmp) (assign body : Code) :
    (Instr.enterLoop fn tmps ps assign body (some l0)).run P W = .ok (l, []) (W.alloc (.loop { state := .ready, pending := none, fn := fn, tmps := tmps, params := ps, assign := assign, body := body, defers := r0.defers })) := by
  subst hl; exact run_enterLoop_inner h ..

def nilS : Value := .slice none 0 0
/-- Between two rounds of the outer loop. -/
def PcI0 (l : List UInt8) (w : World) (B0 k : Nat) (W : World) : Prop :=
  Boxed W B0 24 nilS ∧ Boxed W (B0 + 1) 4 (.bool false) ∧ W.heap[B0 + 6]? = some (.deferred (some [])) ∧ Below B0 w W ∧ B0 + 8 ≤ W.heap.size ∧
    (∃ a n c, Boxed W (B0 + 2) 24 (.slice a n c) ∧ MatI (B0 + 8) W.heap.size W (.slice a n c) ((parM l).take k)) ∧ ∀ r ∈ (cutLD 59 l).take k, ∀ f ∈ cutLD 44 r, POk f
/-- Behind a field that is no number. -/
def PcX (l : List UInt8) (w : World) (B0 : Nat) (W : World) : Prop :=
  Boxed W B0 24 nilS ∧ Boxed W (B0 + 1) 4 (.bool false) ∧ W.heap[B0 + 6]? = some (.deferred (some [])) ∧ Below B0 w W ∧ ¬ AllOk l
/-- Between two rounds of the inner loop. -/
def PcJ (tx : List UInt8) (W : World) (S0 j : Nat) (W' : World) : Prop :=
  Below S0 W W' ∧ S0 + 5 ≤ W'.heap.size ∧ (∃ a n c, Boxed W' S0 39 (.slice a n c) ∧ RowI (S0 + 5) W'.heap.size W' (.slice a n c) ((rowN tx).take j)) ∧ ∀ f ∈ (cutLD 44 tx).take j, POk f
theorem sameIn_grownD {A B x : Nat} {W W' : World} (hg : W.grownBy W' (some x)) (hB : B ≤ W.heap.size) (hx : x < A) : SameIn A B W W' := fun k h1 h2 => hg.block k (by omega) (fun e => by have := Option.some.inj e; omega)
theorem heap_grown {W W' : World} {x k : Nat} {o : Obj} (h : W.heap[k]? = some o) (hg : W.grownBy W' (some x)) (hx : k ≠ x) : W'.heap[k]? = some o :=
  (hg.block k (Array.getElem?_eq_some_iff.1 h).1 (fun e => hx (Option.some.inj e))).trans h
theorem PcI0.grown {l : List UInt8} {w : World} {B0 k x : Nat} {W W' : World} (h : PcI0 l w B0 k W) (hg : W.grownBy W' (some x)) (hx : x = B0 + 3 ∨ x = B0 + 7) : PcI0 l w B0 k W' := by
  obtain ⟨h1, h2, h3, h4, h5, ⟨a, n, c, h6, h7⟩, h8⟩ := h
  have hne : ∀ b, b ≤ B0 + 2 → some b ≠ some x := fun b hb e => by have := Option.some.inj e; omega
  exact ⟨h1.kept hg (hne _ (by omega)), h2.kept hg (hne _ (by omega)), heap_grown h3 hg (by omega), h4.grown hg (by have := h4.size; omega) (fun k hk => by have := Option.some.inj hk; omega), by have := hg.size; omega,
    ⟨a, n, c, h6.kept hg (hne _ (by omega)), (h7.same (sameIn_grownD hg (Nat.le_refl _) (by omega))).mono (Nat.le_refl _) hg.size⟩, h8⟩
theorem PcX.grown {l : List UInt8} {w : World} {B0 x : Nat} {W W' : World} (h : PcX l w B0 W) (hg : W.grownBy W' (some x)) (hx : B0 + 6 < x ∨ x = B0 + 3) : PcX l w B0 W' := by
  obtain ⟨h1, h2, h3, h4, h5⟩ := h
  have hne : ∀ b, b ≤ B0 + 2 → some b ≠ some x := fun b hb e => by have := Option.some.inj e; omega
  exact ⟨h1.kept hg (hne _ (by omega)), h2.kept hg (hne _ (by omega)), heap_grown h3 hg (by omega), h4.grown hg (by have := h1.lt; omega) (fun k hk => by have := Option.some.inj hk; omega), h5⟩
theorem RowI.other {A B x : Nat} {W W' : World} {v : Value} {l : List Int} (h : RowI A B W v l) (hg : W.grownBy W' (some x)) (hx : x < A) : RowI A B W' v l :=
  h.grown hg (by
    cases hv : v.ownBlock with
    | none => exact .inl rfl
    | some g => exact .inr fun e => by have h1 := (h.1.lt g hv).1; have := Option.some.inj e; omega)
theorem PcJ.grown {tx : List UInt8} {W : World} {S0 j x : Nat} {W1 W2 : World} (h : PcJ tx W S0 j W1) (hg : W1.grownBy W2 (some x)) (hx : x = S0 + 1 ∨ x = S0 + 4) : PcJ tx W S0 j W2 := by
  obtain ⟨h1, h2, ⟨a, n, c, h3, h4⟩, h5⟩ := h
  exact ⟨h1.grown hg (by omega) (fun k hk => by have := Option.some.inj hk; omega), by have := hg.size; omega,
    ⟨a, n, c, h3.kept hg (fun e => by have := Option.some.inj e; omega), (h4.other hg (by omega)).mono (Nat.le_refl _) hg.size⟩, h5⟩

theorem pcI0_start {l : List UInt8} {w W0 : World} {B0 : Nat} (hz0 : W0.heap.size = B0 + 6) (b0 : Boxed W0 B0 24 nilS) (b1 : Boxed W0 (B0 + 1) 4 (.bool false)) (b2 : Boxed W0 (B0 + 2) 24 nilS) (hbe : Below B0 w W0) (hS0 : SplitR 59 l (B0 + 3) 0 W0) (o : Obj) :
    PcI0 l w B0 0 ((W0.alloc (.deferred (some []))).alloc o) ∧ SplitR 59 l (B0 + 3) 0 ((W0.alloc (.deferred (some []))).alloc o) := by
  have hal : Below (B0 + 6) W0 ((W0.alloc (.deferred (some []))).alloc o) := ((Below.refl _ _).alloc (by omega) _).alloc (by simp; omega) _
  have hz1 : ((W0.alloc (.deferred (some []))).alloc o).heap.size = B0 + 8 := by simp; omega
  refine ⟨⟨boxed_below b0 hal (by omega), boxed_below b1 hal (by omega), ?_, hbe.trans (hal.mono (by omega)), by rw [hz1]; exact Nat.le_refl _, ⟨none, 0, 0, boxed_below b2 hal (by omega), ?_⟩, by simp⟩, hS0.below hal (by omega)⟩
  · have h6 := heap_last hz0 (.deferred (some []))
    exact ((MapKept.heap_alloc _ _).2 _ (by simp; omega)).trans h6
  · rw [List.take_zero]; exact MatI.nil _ _ _

theorem pc_end0 {w W : World} {B0 : Nat} {v c : Value} {m : List (List Int)} (k1 : Boxed W B0 24 v) (k2 : Boxed W (B0 + 1) 4 c) (hK : W.heap[B0 + 6]? = some (.deferred (some []))) (hbe : Below B0 w W) (hm : MatI (B0 + 8) W.heap.size W v m) :
    (W.putObj (B0 + 6) (.deferred none)).cell? ⟨B0, 0, none⟩ = some v ∧ (W.putObj (B0 + 6) (.deferred none)).cell? ⟨B0 + 1, 0, none⟩ = some c ∧ OwnM B0 (W.putObj (B0 + 6) (.deferred none)).heap.size (W.putObj (B0 + 6) (.deferred none)) v m ∧ Below B0 w (W.putObj (B0 + 6) (.deferred none)) := by
  have hg := grownBy_putObj' W (B0 + 6) (.deferred none)
  refine ⟨(k1.kept hg (fun e => by have := Option.some.inj e; omega)).cell, (k2.kept hg (fun e => by have := Option.some.inj e; omega)).cell, ⟨(hm.same (sameIn_grownD hg (Nat.le_refl _) (by omega))).mono (by omega) hg.size, Nat.le_refl _⟩,
    hbe.grown hg (by have := k1.lt; omega) (fun k hk => by have := Option.some.inj hk; omega)⟩
theorem pc_set {w W : World} {B0 : Nat} {v v' c c' : Value} {m : List (List Int)} (k1 : Boxed W B0 24 v) (k2 : Boxed W (B0 + 1) 4 c) (hK : W.heap[B0 + 6]? = some (.deferred (some []))) (hbe : Below B0 w W) (hm : MatI (B0 + 8) W.heap.size W v' m) (v'' : Value) :
    Boxed ((W.setCell ⟨B0, 0, none⟩ v'').setCell ⟨B0 + 1, 0, none⟩ c') B0 24 v'' ∧ Boxed ((W.setCell ⟨B0, 0, none⟩ v'').setCell ⟨B0 + 1, 0, none⟩ c') (B0 + 1) 4 c' ∧ ((W.setCell ⟨B0, 0, none⟩ v'').setCell ⟨B0 + 1, 0, none⟩ c').heap[B0 + 6]? = some (.deferred (some [])) ∧
      Below B0 w ((W.setCell ⟨B0, 0, none⟩ v'').setCell ⟨B0 + 1, 0, none⟩ c') ∧ MatI (B0 + 8) ((W.setCell ⟨B0, 0, none⟩ v'').setCell ⟨B0 + 1, 0, none⟩ c').heap.size ((W.setCell ⟨B0, 0, none⟩ v'').setCell ⟨B0 + 1, 0, none⟩ c') v' m := by
  have g1 := grownBy_setCell' W B0 v''
  have g2 := grownBy_setCell' (W.setCell ⟨B0, 0, none⟩ v'') (B0 + 1) c'
  have hW := k1.lt
  refine ⟨boxed_other (k1.set v'') (by omega) c', (boxed_other k2 (by omega) v'').set c', heap_grown (heap_grown hK g1 (by omega)) g2 (by omega),
    (hbe.grown g1 (by omega) (fun k hk => by have := Option.some.inj hk; omega)).grown g2 (by have := g1.size; omega) (fun k hk => by have := Option.some.inj hk; omega),
    (hm.same ((sameIn_grownD g1 (Nat.le_refl _) (by omega)).trans (sameIn_grownD g2 g1.size (by omega)))).mono (Nat.le_refl _) (Nat.le_trans g1.size g2.size)⟩

theorem pcI0_next {l tx : List UInt8} {w W W' w2 : World} {B0 S0 k : Nat} {a n c : _} {v : Value} {r : Loop} (hs0 : W.heap.size = S0) (hr : W.heap[B0 + 7]? = some (.loop r)) (h1 : Boxed W B0 24 nilS) (h2 : Boxed W (B0 + 1) 4 (.bool false)) (h3 : W.heap[B0 + 6]? = some (.deferred (some [])))
    (h4 : Below B0 w W) (h5 : B0 + 8 ≤ W.heap.size) (h6 : Boxed W (B0 + 2) 24 (.slice a n c)) (h8 : ∀ r ∈ (cutLD 59 l).take k, ∀ f ∈ cutLD 44 r, POk f) (hR : SplitR 59 l (B0 + 3) k W)
    (hb : Below S0 W W') (hq : Below (B0 + 8) W' w2) (hA8 : ∀ r ∈ (cutLD 59 l).take (k + 1), r ∈ (cutLD 59 l).take k ∨ r = tx) (hf : ∀ f ∈ cutLD 44 tx, POk f) (hv : ∃ a' n' c', v = .slice a' n' c') (hm : MatI (B0 + 8) w2.heap.size w2 v ((parM l).take (k + 1))) :
    (w2.setCell ⟨B0 + 2, 0, none⟩ v).heap[B0 + 7]? = some (.loop r) ∧ PcI0 l w B0 (k + 1) (w2.setCell ⟨B0 + 2, 0, none⟩ v) ∧ SplitR 59 l (B0 + 3) k (w2.setCell ⟨B0 + 2, 0, none⟩ v) := by
  obtain ⟨a', n', c', rfl⟩ := hv
  have t : Below (B0 + 8) W w2 := (hb.mono (by omega)).trans hq
  have g := grownBy_setCell' w2 (B0 + 2) (.slice a' n' c')
  have hz := t.size
  refine ⟨heap_grown ((t.block _ (by omega)).trans hr) g (by omega), ⟨boxed_other (boxed_below h1 t (by omega)) (by omega) _, boxed_other (boxed_below h2 t (by omega)) (by omega) _, heap_grown ((t.block _ (by omega)).trans h3) g (by omega),
    (h4.trans (t.mono (by omega))).grown g (by omega) (fun k hk => by have := Option.some.inj hk; omega), by have := g.size; omega, ⟨a', n', c', (boxed_below h6 t (by omega)).set _, (hm.same (sameIn_grownD g (Nat.le_refl _) (by omega))).mono (Nat.le_refl _) g.size⟩, fun r hr => ?_⟩, (hR.below t (by omega)).grown g (.inl (by omega))⟩
  rcases hA8 r hr with h | h
  · exact h8 r h
  · rw [h]; exact hf
theorem pcJ_start {tx : List UInt8} {W : World} {S0 : Nat} (hs0 : W.heap.size = S0) (o : Obj) :
    PcJ tx W S0 0 ((splitW (W.alloc (.cells #[.slice none 0 0] 39)) tx 44).alloc o) ∧ SplitR 44 tx (S0 + 1) 0 ((splitW (W.alloc (.cells #[.slice none 0 0] 39)) tx 44).alloc o) := by
  have hz : (splitW (W.alloc (.cells #[.slice none 0 0] 39)) tx 44).heap.size = S0 + 4 := by rw [splitW_size]; simp; omega
  have hS := splitW_start (W.alloc (.cells #[.slice none 0 0] 39)) tx 44
  have hq := splitW_below (W.alloc (.cells #[.slice none 0 0] 39)) tx 44
  have b := Boxed.new W 39 (.slice none 0 0)
  have hz1 : (W.alloc (.cells #[.slice none 0 0] 39)).heap.size = S0 + 1 := by simp; omega
  rw [hz1] at hS hq
  rw [hs0] at b
  have ha : Below (S0 + 4) (splitW (W.alloc (.cells #[.slice none 0 0] 39)) tx 44) ((splitW (W.alloc (.cells #[.slice none 0 0] 39)) tx 44).alloc o) := (Below.refl _ _).alloc (by omega) _
  refine ⟨⟨(((Below.refl S0 W).alloc (by omega) _).trans (hq.mono (by omega))).trans (ha.mono (by omega)), by simp; omega, ⟨none, 0, 0, boxed_below (boxed_below b hq (by omega)) ha (by omega), ?_⟩, by simp⟩, hS.below ha (by omega)⟩
  rw [List.take_zero]
  exact ⟨World.ownsRow_nil _ _ _ _, fun g h => by simp [Value.ownBlock] at h⟩

theorem pcJ_next {tx : List UInt8} {W W' w2 : World} {S0 j : Nat} {a n c : _} {v : Value} {r : Loop} (hr : W'.heap[S0 + 4]? = some (.loop r)) (hb : Below S0 W W') (hz : S0 + 5 ≤ W'.heap.size) (hbx : Boxed W' S0 39 (.slice a n c)) (hf : ∀ f ∈ (cutLD 44 tx).take (j + 1), POk f)
    (hR : SplitR 44 tx (S0 + 1) j W') (hq : Below (S0 + 5) W' w2) (hv : ∃ a' n' c', v = .slice a' n' c') (hm : RowI (S0 + 5) w2.heap.size w2 v ((rowN tx).take (j + 1))) :
    (w2.setCell ⟨S0, 0, none⟩ v).heap[S0 + 4]? = some (.loop r) ∧ PcJ tx W S0 (j + 1) (w2.setCell ⟨S0, 0, none⟩ v) ∧ SplitR 44 tx (S0 + 1) j (w2.setCell ⟨S0, 0, none⟩ v) := by
  obtain ⟨a', n', c', rfl⟩ := hv
  have g := grownBy_setCell' w2 S0 (.slice a' n' c')
  have hs := hq.size
  refine ⟨heap_grown ((hq.block _ (by omega)).trans hr) g (by omega), ⟨(hb.trans (hq.mono (by omega))).grown g (by omega) (fun k hk => by have := Option.some.inj hk; omega), by have := g.size; omega,
    ⟨a', n', c', (boxed_below hbx hq (by omega)).set _, (hm.other g (by omega)).mono (Nat.le_refl _) g.size⟩, hf⟩, (hR.below hq (by omega)).grown g (.inl (by omega))⟩
theorem pcX_new {l : List UInt8} {w W W' w1 : World} {B0 S0 : Nat} {r r2 : Loop} (hs0 : W.heap.size = S0) (hr : W.heap[B0 + 7]? = some (.loop r)) (hr2 : W'.heap[S0 + 4]? = some (.loop r2)) (h1 : Boxed W B0 24 nilS) (h2 : Boxed W (B0 + 1) 4 (.bool false)) (h3 : W.heap[B0 + 6]? = some (.deferred (some [])))
    (h4 : Below B0 w W) (h5 : B0 + 8 ≤ W.heap.size) (hb : Below S0 W W') (hq : Below W'.heap.size W' w1) (hn : ¬ AllOk l) :
    ((w1.setCell ⟨B0, 0, none⟩ (.slice none 0 0)).setCell ⟨B0 + 1, 0, none⟩ (.bool false)).heap[S0 + 4]? = some (.loop r2) ∧ PcX l w B0 ((w1.setCell ⟨B0, 0, none⟩ (.slice none 0 0)).setCell ⟨B0 + 1, 0, none⟩ (.bool false)) ∧ ((w1.setCell ⟨B0, 0, none⟩ (.slice none 0 0)).setCell ⟨B0 + 1, 0, none⟩ (.bool false)).heap[B0 + 7]? = some (.loop r) := by
  have hz := hb.size
  have hz1 := hq.size
  have t : Below S0 W w1 := hb.trans (hq.mono (by omega))
  have g1 := grownBy_setCell' w1 B0 (.slice none 0 0)
  have g2 := grownBy_setCell' (w1.setCell ⟨B0, 0, none⟩ (.slice none 0 0)) (B0 + 1) (.bool false)
  obtain ⟨q1, q2, q3, q4, _⟩ := pc_set (c' := .bool false) (m := []) (v' := nilS) (boxed_below h1 t (by omega)) (boxed_below h2 t (by omega)) ((t.block _ (by omega)).trans h3) (h4.trans (t.mono (by omega))) (MatI.nil _ _ _) (.slice none 0 0)
  refine ⟨heap_grown (heap_grown ((hq.block _ (Array.getElem?_eq_some_iff.1 hr2).1).trans hr2) g1 (by omega)) g2 (by omega), ⟨q1, q2, q3, q4, hn⟩, heap_grown (heap_grown ((t.block _ (by omega)).trans hr) g1 (by omega)) g2 (by omega)⟩

theorem parM_fit {l : List UInt8} (hs : l.length ≤ 1048576) : RowsFit (parM l) := by
  refine ⟨by have := parM_len l; unfold maxLen; omega, fun j hj => ?_⟩
  have hj' : j < (cutLD 59 l).length := by simpa [parM] using hj
  have e : (parM l)[j] = rowN (cutLD 59 l)[j] := by simp [parM]
  rw [e]
  have h1 := rowN_len (cutLD 59 l)[j]
  have h2 := cutL_mem_len 59 l _ (List.getElem_mem hj')
  unfold maxLen; omega

set_option maxHeartbeats 4000000 in
set_option maxRecDepth 100000 in
theorem pci_any (s : ByteArray) (w : World) (hs : s.size ≤ 1048576) (htab : Lib.TabIs Tryz.prog w "internal/strconv.uint64pow10" .u64 Lib.pow10Tab) :
    Calls Tryz.prog 9 #[.string s] w (MakesM2 w (pcM s.data.toList) (.bool (pcB s.data.toList))) := by
  obtain ⟨l, hl⟩ : ∃ l, l = s.data.toList := ⟨_, rfl⟩
  have hsl : s.size = l.length := by rw [hl]; exact Array.length_toList.symm
  have hse : Value.string s = strL l := by rw [hl]; rfl
  rw [← hl, hse]
  clear hl
  rw [hsl] at hs
  clear hsl hse s
  refine (callsIn_wide (n := 9)).1 ?_
  refine callsIn_of_wp_marks Tryz.func9 rfl trivial ?_ rfl
  simp only [Tryz.ntmps9, List.size_toArray, List.length_cons, List.length_nil, Nat.reduceAdd, Nat.reduceSub, Array.replicate_succ, Array.replicate_zero, List.push_toArray, List.append_toArray, List.nil_append, List.cons_append]
  gi_wp2_with (refine ⟨trivial, ?_⟩; gi_at_call 76; refine (callsIn_wide.2 (splitseq_any l 59 _)).mono ?_; rintro e w' ⟨rfl, rfl⟩)
  obtain ⟨B0, hB0⟩ : ∃ B, w.heap.size = B := ⟨_, rfl⟩
  have hz0 : (splitW (((w.alloc (.cells #[nilS] 24)).alloc (.cells #[.bool false] 4)).alloc (.cells #[nilS] 24)) l 59).heap.size = B0 + 6 := by rw [splitW_size]; simp; omega
  have hS0 := splitW_start (((w.alloc (.cells #[nilS] 24)).alloc (.cells #[.bool false] 4)).alloc (.cells #[nilS] 24)) l 59
  have hq0 := splitW_below (((w.alloc (.cells #[nilS] 24)).alloc (.cells #[.bool false] 4)).alloc (.cells #[nilS] 24)) l 59
  have b0 := ((Boxed.new w 24 nilS).alloc (.cells #[.bool false] 4)).alloc (.cells #[nilS] 24)
  have b1 := (Boxed.new (w.alloc (.cells #[nilS] 24)) 4 (.bool false)).alloc (.cells #[nilS] 24)
  have b2 := Boxed.new ((w.alloc (.cells #[nilS] 24)).alloc (.cells #[.bool false] 4)) 24 nilS
  have hbe : Below w.heap.size w (((w.alloc (.cells #[nilS] 24)).alloc (.cells #[.bool false] 4)).alloc (.cells #[nilS] 24)) := (((Below.refl _ w).alloc (Nat.le_refl _) _).alloc (by simp) _).alloc (by simp; omega) _
  have hsz3 : (((w.alloc (.cells #[nilS] 24)).alloc (.cells #[.bool false] 4)).alloc (.cells #[nilS] 24)).heap.size = B0 + 3 := by simp; omega
  have b0 := boxed_below b0 hq0 (by rw [hsz3]; omega)
  have b1 := boxed_below b1 hq0 (by rw [hsz3]; simp; omega)
  have b2 := boxed_below b2 hq0 (by rw [hsz3]; simp; omega)
  have hbe := hbe.trans (hq0.mono (by rw [hsz3]; omega))
  rw [hsz3] at hS0
  simp only [World.size_alloc, hB0] at b0 b1 b2 hbe ⊢
  rw [show B0 + 1 + 1 + 1 = B0 + 3 from rfl, show B0 + 1 + 1 = B0 + 2 from rfl]
  rw [show B0 + 1 + 1 = B0 + 2 from rfl] at b2
  change Code.wpIn _ _ _ _ _ _ (splitW (((w.alloc (.cells #[nilS] 24)).alloc (.cells #[.bool false] 4)).alloc (.cells #[nilS] 24)) l 59)
  generalize splitW (((w.alloc (.cells #[nilS] 24)).alloc (.cells #[.bool false] 4)).alloc (.cells #[nilS] 24)) l 59 = W0 at *
  clear hq0 hsz3
  refine range_gives (F := Fence.wide) (n := 9) (by omega) (gf := 139) (lb := #[.pointer (some ⟨B0 + 3 + 1, 0, none⟩), .pointer (some ⟨B0 + 3, 0, none⟩), .pointer (some ⟨B0 + 3 + 2, 0, none⟩)]) rfl trivial (enters_of Tryz.func139 (by kernel_rfl) rfl)
    (xs := (cutLD 59 l).map fun x => #[strL x]) (R := SplitR 59 l (B0 + 3)) (Ab := SplitAb (B0 + 3)) (split_gives 8 (by omega) 59 l hs (B0 + 3)) (fun x hx => by obtain ⟨y, _, rfl⟩ := List.mem_map.1 hx; rfl)
    (B0 + 7) (B0 + 6) [{ target := .collected (B0 + 6), args := #[] }] (fun fn => (W0.alloc (.deferred (some []))).alloc (.loop { state := .ready, pending := none, fn := fn, tmps := _, params := _, assign := _, body := _, defers := B0 + 6 }))
    (fun fn => enter_outer hz0 rfl fn _ _ _ _) (fun fn => heap_last (by rw [World.size_alloc, hz0]) _)
    (PcI0 l w B0) (PcX l w B0) (fun k W r r' hi _ => hi.grown (grownBy_putObj' W _ _) (.inr rfl)) (fun W r r' hi _ => hi.grown (grownBy_putObj' W _ _) (.inl (by omega))) (fun k W r r' hi _ => hi.grown (grownBy_putObj' W _ _) (.inr (by omega)))
    (fun k X Y hi hab => by obtain ⟨v, rfl⟩ := hab; exact hi.grown (grownBy_setCell' _ _ _) (.inl rfl)) (fun X Y hab => by obtain ⟨v, rfl⟩ := hab; exact Below.heap_setCell _ _ _ _ (by simp)) (fun fn => ?start)
    (fun k _ => { tmps := #[strL l, undef, .pointer (some ⟨B0, 0, none⟩), .pointer (some ⟨B0 + 1, 0, none⟩), .pointer (some ⟨B0 + 2, 0, none⟩), strL ((cutLD 59 l).getD k []), undef, undef, undef, undef, strL l, splitFn (B0 + 3), strL ((cutLD 59 l).getD k []), undef, undef, undef, undef, undef, undef, undef, undef, undef, undef, undef, undef, undef, undef, undef, undef, undef, undef, undef, undef, undef, undef], defers := [] })
    ?assign ?body ?done ?stop
  case start => exact pcI0_start hz0 b0 b1 b2 hbe hS0 _
  case assign =>
    intro k h W K hK
    rw [map_get]
    gi_wp2
    exact hK
  case body =>
    rintro k hk W r hr ⟨h1, h2, h3, h4, h5, ⟨a, n, c, h6, h7⟩, h8⟩ hR
    have hkl : k < (cutLD 59 l).length := by simpa using hk
    have hmem := getD_mem hk
    have htx := cutL_mem_len 59 l _ hmem
    have hrow := parM_snoc l k hkl
    have hgd : (cutLD 59 l).getD k [] = (cutLD 59 l)[k] := by simp [List.getD, hkl]
    rw [← hgd] at hrow
    have hall8 : ∀ r ∈ (cutLD 59 l).take (k + 1), r ∈ (cutLD 59 l).take k ∨ r = (cutLD 59 l).getD k [] := fun r hr => by
      rw [List.take_succ_eq_append_getElem hkl, ← hgd] at hr
      rcases List.mem_append.1 hr with h | h
      · exact .inl h
      · exact .inr (by simpa using h)
    have hpl : ((parM l).take k).length ≤ 1048577 := by
      have := parM_len l
      rw [List.length_take]; omega
    have HMEM := Lib.hid hmem; have HROW := Lib.hid hrow; have HA8 := Lib.hid hall8; have HPL := Lib.hid hpl
    clear hmem hrow hgd hall8 hpl hkl hk
    generalize (cutLD 59 l).getD k [] = tx at *
    have htx2 : tx.length ≤ 1048576 := by omega
    have h11 : 1 ≤ 9 - 1 - 1 := by omega
    obtain ⟨S0, hS0⟩ : ∃ S, W.heap.size = S := ⟨_, rfl⟩
    gi_wp2_with (refine ⟨trivial, ?_⟩; gi_at_call 76; refine (CallsIn.inRound _ (callsIn_wide.2 (splitseq_any tx 44 _))).mono ?_; rintro e w' ⟨rfl, rfl⟩)
    have hr2 : (splitW (W.alloc (.cells #[.slice none 0 0] 39)) tx 44).heap[B0 + 7]? = some (.loop r) := by
      have hq := splitW_below (W.alloc (.cells #[.slice none 0 0] 39)) tx 44
      refine (hq.block _ (by simp; omega)).trans (((MapKept.heap_alloc W _).2 _ (by omega)).trans hr)
    have hz2 : (splitW (W.alloc (.cells #[.slice none 0 0] 39)) tx 44).heap.size = S0 + 4 := by rw [splitW_size]; simp; omega
    refine range_gives (F := Fence.wide.inRound (B0 + 7)) h11 (gf := 139) (lb := #[.pointer (some ⟨S0 + 1 + 1, 0, none⟩), .pointer (some ⟨S0 + 1, 0, none⟩), .pointer (some ⟨S0 + 1 + 2, 0, none⟩)]) rfl trivial (enters_of Tryz.func139 (by kernel_rfl) rfl)
      (xs := (cutLD 44 tx).map fun x => #[strL x]) (R := SplitR 44 tx (S0 + 1)) (Ab := SplitAb (S0 + 1)) ((split_gives _ (by omega) 44 tx htx2 (S0 + 1)).inRound _) (fun x hx => by obtain ⟨y, _, rfl⟩ := List.mem_map.1 hx; rfl)
      (S0 + 4) r.defers [] (fun fn => (splitW (W.alloc (.cells #[.slice none 0 0] 39)) tx 44).alloc (.loop { state := .ready, pending := none, fn := fn, tmps := _, params := _, assign := _, body := _, defers := r.defers }))
      (fun fn => enter_inner hz2 hr2 fn _ _ _ _) (fun fn => heap_last hz2 _)
      (PcJ tx W S0) (fun W' => PcX l w B0 W' ∧ W'.heap[B0 + 7]? = some (.loop r)) (fun k W r r' hi _ => hi.grown (grownBy_putObj' W _ _) (.inr rfl)) (fun W' r' r'' hi _ => ⟨hi.1.grown (grownBy_putObj' W' _ _) (.inl (by omega)), heap_grown hi.2 (grownBy_putObj' W' _ _) (by omega)⟩) (fun k W r r' hi _ => hi.grown (grownBy_putObj' W _ _) (.inr (by omega)))
      (fun k X Y hi hab => by obtain ⟨v, rfl⟩ := hab; exact hi.grown (grownBy_setCell' _ _ _) (.inl rfl)) (fun X Y hab => by obtain ⟨v, rfl⟩ := hab; exact Below.heap_setCell _ _ _ _ (by simp)) (fun fn => pcJ_start hS0 _)
      (fun j _ => { tmps := #[strL l, undef, .pointer (some ⟨B0, 0, none⟩), .pointer (some ⟨B0 + 1, 0, none⟩), .pointer (some ⟨B0 + 2, 0, none⟩), strL tx, .pointer (some ⟨S0, 0, none⟩), strL ((cutLD 44 tx).getD j []), undef, undef, strL l, splitFn (B0 + 3), strL tx, strL tx, splitFn (S0 + 1), strL ((cutLD 44 tx).getD j []), undef, undef, undef, undef, undef, undef, undef, undef, undef, undef, undef, undef, undef, undef, undef, undef, undef, undef, undef], defers := [] })
      ?assign2 ?body2 ?done2 ?stop2
    case assign2 =>
      intro j h W' K hK
      rw [map_get]
      gi_wp2
      exact hK
    case body2 =>
      rintro j hj W' r2 hr3 ⟨hb, hz, ⟨ra, rn, rc, hbx, hrw⟩, hf⟩ hR2
      have hjl : j < (cutLD 44 tx).length := by simpa using hj
      have hmem := getD_mem hj
      have hfl := cutL_mem_len 44 tx _ hmem
      have hrow := rowN_snoc tx j hjl
      have hgd : (cutLD 44 tx).getD j [] = (cutLD 44 tx)[j] := by simp [List.getD, hjl]
      rw [← hgd] at hrow
      have hall8 : ∀ f ∈ (cutLD 44 tx).take (j + 1), f ∈ (cutLD 44 tx).take j ∨ f = (cutLD 44 tx).getD j [] := fun r hr => by
        rw [List.take_succ_eq_append_getElem hjl, ← hgd] at hr
        rcases List.mem_append.1 hr with h | h
        · exact .inl h
        · exact .inr (by simpa using h)
      have hpl : ((rowN tx).take j).length ≤ 4194304 := by
        have := rowN_len tx
        rw [List.length_take]; omega
      have HMEM2 := Lib.hid hmem; have HROW2 := Lib.hid hrow; have HA2 := Lib.hid hall8; have HPL2 := Lib.hid hpl
      clear hmem hrow hgd hall8 hpl hjl hj
      generalize (cutLD 44 tx).getD j [] = fl at *
      have htb := tab_below htab ((h4.mono (Nat.le_of_eq hB0)).trans (hb.mono (by omega)))
      have hpa := pari_any ⟨fl.toArray⟩ W' (by rw [ba_list]; unfold maxLen; omega) htb
      change Calls _ _ #[strL fl] _ _ at hpa
      have h12 : 1 ≤ 9 - 1 - 1 - 1 - 1 := by omega
      by_cases hp : POk fl
      · have hpy : Calls Tryz.prog 77 #[strL fl] W' fun e w1 => e = .returned (.tuple #[.int .i64 (PV fl), .bool true]) ∧ Below W'.heap.size W' w1 := hpa.mono fun e w1 ⟨h, hb1⟩ => by
          rcases h with ⟨_, h⟩ | ⟨h, _⟩
          · exact ⟨h, hb1⟩
          · exact absurd hp h
        have hfy : ∀ f ∈ (cutLD 44 tx).take (j + 1), POk f := fun f hff => by
          rcases HA2.out f hff with h | h
          · exact hf f h
          · rw [h]; exact hp
        have hnv := numL_yes hp
        have hr0 := HROW2.out
        rw [hnv] at hr0
        have HR0 := Lib.hid hr0
        clear hr0 hnv HROW2
        generalize PV fl = x at *
        gi_wp2_with (first | (refine ⟨trivial, ?_⟩; gi_at_call 77; refine (CallsIn.inRound _ (callsIn_wide.2 hpy)).mono ?_; rintro e w1 ⟨rfl, hb1⟩; have hz1 := hb1.size; have bx1 := boxed_below hbx hb1 (by omega); have cx1 := bx1.cell; have hrw1 := hrw.step hb1) | (gi_at_builtin; refine append_intI hrw1 (by omega) x HR0.out rfl rfl rfl rfl HPL2.out ?_; rintro v' w2 ⟨a', n', c', rfl⟩ hm2 hb2 hz3; have hq := hb2 W' (S0 + 5) (Nat.le_refl _) (hb1.mono (by omega)); have c3 := (boxed_below hbx hq (by omega)).cell; have c3f := (boxed_below hbx hq (by omega)).frozen))
        exact pcJ_next hr3 hb hz hbx hfy hR2 hq ⟨_, _, _, rfl⟩ hm2
      · have hpn : Calls Tryz.prog 77 #[strL fl] W' fun e w1 => e = .returned (.tuple #[.int .i64 0, .bool false]) ∧ Below W'.heap.size W' w1 := hpa.mono fun e w1 ⟨h, hb1⟩ => by
          rcases h with ⟨h, _⟩ | ⟨_, h⟩
          · exact absurd h hp
          · exact ⟨h, hb1⟩
        have hno : ¬ AllOk l := fun h => hp (h _ HMEM.out _ HMEM2.out)
        gi_wp2_with (refine ⟨trivial, ?_⟩; gi_at_call 77; refine (CallsIn.inRound _ (callsIn_wide.2 hpn)).mono ?_; rintro e w1 ⟨rfl, hb1⟩; have t1 := hb.trans (hb1.mono (by omega)); have k1 := boxed_below h1 t1 (by omega); have k2 := boxed_below h2 t1 (by omega); have cx1 := k1.cell; have cx1f := k1.frozen; have k3 := boxed_other k2 (B' := B0) (by omega) (.slice none 0 0); have cx2 := k3.cell; have cx2f := k3.frozen)
        exact pcX_new hS0 hr hr3 h1 h2 h3 h4 h5 hb hb1 hno
    case done2 =>
      rintro W' ⟨hb, hz, ⟨ra, rn, rc, hbx, hrw⟩, hf⟩
      rw [List.length_map] at hrw hf
      rw [List.take_of_length_le (by simp [rowN])] at hrw
      rw [List.take_of_length_le (Nat.le_refl _)] at hf
      have c1 := hbx.cell
      have bo := boxed_below h6 hb (by omega)
      have c2 := bo.cell
      have c2f := bo.frozen
      have hM2 : MatI (B0 + 8) (S0 + 5) W' (.slice a n c) ((parM l).take k) := (h7.same (SameIn.of_below hb (by omega))).mono (Nat.le_refl _) (by omega)
      gi_wp2_with (gi_at_builtin; refine append_rowI hM2 hrw (by omega) hz HROW.out rfl rfl rfl rfl HPL.out ?_; rintro v' w2 ⟨a', n', c', rfl⟩ hm2 hb2 hz3; have hq := hb2 W' (B0 + 8) (Nat.le_refl _) (Below.refl _ _); have c3 := (boxed_below bo hq (by omega)).cell; have c3f := (boxed_below bo hq (by omega)).frozen)
      exact pcI0_next hS0 hr h1 h2 h3 h4 h5 h6 h8 hR hb hq HA8.out hf ⟨_, _, _, rfl⟩ hm2
    case stop2 =>
      rintro W' ⟨hX, hl⟩
      gi_wp2
      exact ⟨hl, hX⟩
  case done =>
    rintro W ⟨h1, h2, h3, h4, h5, ⟨a, n, c, h6, h7⟩, h8⟩
    rw [List.length_map] at h7 h8
    rw [List.take_of_length_le (by simp [parM])] at h7
    rw [List.take_of_length_le (Nat.le_refl _)] at h8
    have hall : AllOk l := h8
    have cO := h6.cell
    have hfit : RowsFit (parM l) := parM_fit hs
    have hisc := fun c' (hc : isB (parM l) = c') => icm_wD W.heap.size (.slice a n c) (parM l) c' hc W h7.matB hfit
    by_cases hI : IsC (parM l)
    · have hic := hisc true (isB_yes hI)
      clear hisc h8
      have HB : Hid (pcB l = true) := Lib.hid (pcB_yes (pc_of_all hall hI))
      have HM : Hid (pcM l = parM l) := Lib.hid (pcM_yes (pc_of_all hall hI))
      gi_wp2_with (refine ⟨trivial, ?_⟩; gi_at_call 13; refine (callsIn_wide.2 hic).mono ?_; rintro e w5 ⟨rfl, hb5⟩; have c4 := (boxed_below h6 hb5 h6.lt).cell; have k1 := boxed_below h1 hb5 h1.lt; have k2 := boxed_below h2 hb5 h2.lt; have c5 := k1.cell; have c5f := k1.frozen; have k3 := boxed_other k2 (B' := B0) (by omega) (.slice a n c); have c6 := k3.cell; have c6f := k3.frozen)
      have hz5 := hb5.size
      obtain ⟨q1, q2, q3, q4, q5⟩ := pc_set (c' := .bool true) k1 k2 ((hb5.block _ (by omega)).trans h3) (h4.trans (hb5.mono (by omega))) (MatI.step h7 hb5) (.slice a n c)
      obtain ⟨e1, e2, e3, e4⟩ := pc_end0 q1 q2 q3 q4 q5
      refine ⟨by simp, .inl ⟨_, _, rfl, run_takeDeferred q3, ?_⟩⟩
      refine ⟨.tuple #[(.slice a n c), .bool true], ?_, (.slice a n c), by rw [HB.out], by rw [HM.out, hB0]; exact e3, by rw [hB0]; exact e4⟩
      simp [results, Tryz.f9, go_sem, e1, e2]
    · have hic := hisc false (isB_no hI)
      clear hisc h8
      have HB : Hid (pcB l = false) := Lib.hid (pcB_no fun h => hI (pc_isC h))
      have HM : Hid (pcM l = []) := Lib.hid (pcM_no fun h => hI (pc_isC h))
      gi_wp2_with (refine ⟨trivial, ?_⟩; gi_at_call 13; refine (callsIn_wide.2 hic).mono ?_; rintro e w5 ⟨rfl, hb5⟩; have c4 := (boxed_below h6 hb5 h6.lt).cell; have k1 := boxed_below h1 hb5 h1.lt; have k2 := boxed_below h2 hb5 h2.lt; have c5 := k1.cell; have c5f := k1.frozen; have k3 := boxed_other k2 (B' := B0) (by omega) (.slice none 0 0); have c6 := k3.cell; have c6f := k3.frozen)
      have hz5 := hb5.size
      obtain ⟨q1, q2, q3, q4, q5⟩ := pc_set (c' := .bool false) k1 k2 ((hb5.block _ (by omega)).trans h3) (h4.trans (hb5.mono (by omega))) (MatI.nil _ _ _) (.slice none 0 0)
      obtain ⟨e1, e2, e3, e4⟩ := pc_end0 q1 q2 q3 q4 (MatI.nil _ _ _)
      refine ⟨by simp, .inl ⟨_, _, rfl, run_takeDeferred q3, ?_⟩⟩
      refine ⟨.tuple #[(.slice none 0 0), .bool false], ?_, (.slice none 0 0), by rw [HB.out], by rw [HM.out, hB0]; exact e3, by rw [hB0]; exact e4⟩
      simp [results, Tryz.f9, go_sem, e1, e2]
  case stop =>
    rintro W ⟨h1, h2, h3, h4, h5⟩
    have HB : Hid (pcB l = false) := Lib.hid (pcB_no fun h => h5 (pc_all h))
    have HM : Hid (pcM l = []) := Lib.hid (pcM_no fun h => h5 (pc_all h))
    have c5 := h1.cell
    have c5f := h1.frozen
    gi_wp2
    obtain ⟨e1, e2, e3, e4⟩ := pc_end0 h1 h2 h3 h4 (MatI.nil _ _ _)
    refine ⟨by simp, .inl ⟨_, _, rfl, run_takeDeferred h3, ?_⟩⟩
    refine ⟨.tuple #[nilS, .bool false], ?_, nilS, by rw [HB.out], by rw [HM.out, hB0]; exact e3, by rw [hB0]; exact e4⟩
    simp [results, Tryz.f9, go_sem, e1, e2]
end Go.Proofs.YtppimgkampkfjaaGreatDoor
namespace Go.Proofs.YtppimgkampkfjaaGreatDoor
open Go.RowKit

theorem type_str {l : List UInt8} {nm : ByteArray} (hl : l = nm.data.toList) (h : typeB l = true) : nm = ⟨(nameO (typeM l)).toArray⟩ := by
  rw [type_name h, hl]
theorem type_fit (l : List UInt8) : RowsFit (typeM l) := by
  by_cases h : typeB l = true
  · have h1 : l ∈ namesL := by
      unfold typeB typeAt at h
      rw [Option.isSome_map] at h
      obtain ⟨p, hp⟩ := Option.isSome_iff_exists.1 h
      have h2 := List.find?_some hp
      have h3 := keys_named p (List.mem_of_find?_eq_some hp)
      rw [beq_iff_eq] at h2
      rw [h2] at h3; exact h3
    obtain ⟨t, ht, he⟩ := List.getElem_of_mem h1
    have e : namesL.getD t [] = l := by rw [List.getD_eq_getElem?_getD, List.getElem?_eq_getElem ht]; exact he
    rw [← e]
    exact fit_of_small (sq_small (isC_sq (isD_isC (types_ok t ht))))
  · have e : typeM l = [] := by
      unfold typeB at h
      unfold typeM
      cases hT : typeAt l with
      | none => rfl
      | some p => rw [hT] at h; exact absurd rfl h
    rw [e]
    exact ⟨by unfold maxLen; simp, fun j hj => by simp at hj⟩
end Go.Proofs.YtppimgkampkfjaaGreatDoor
