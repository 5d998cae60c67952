/-
  What the walks over split texts keep (no walk here).
-/
import Derived.Test.YtfjeghalkmkgoaaGreatDoorFW24
import Derived.Test.YtfjeghalkmkgoaaGreatDoorFW26
namespace Go.Proofs.YtfjeghalkmkgoaaGreatDoor
open Go.RowKit Go.Shelf
attribute [local go_sem] Oper.semAt_some

theorem SplitR.grown {c : UInt8} {l : List UInt8} {B k x : Nat} {W W' : World} (h : SplitR c l B k W) (hg : W.grownBy W' (some x)) (hx : x < B ∨ B + 2 < x) : SplitR c l B k W' :=
  h.mono fun b t v h1 h2 hb => hb.kept hg (fun e => by have := Option.some.inj e; omega)
theorem SplitR.below {c : UInt8} {l : List UInt8} {B k A : Nat} {W W' : World} (h : SplitR c l B k W) (hb : Below A W W') (hA : B + 2 < A) : SplitR c l B k W' :=
  h.mono fun b t v h1 h2 hx => boxed_below hx hb (by omega)
theorem map_get (xs : List (List UInt8)) (k : Nat) (h : k < (xs.map fun x => #[strL x]).length) : (xs.map fun x => #[strL x])[k] = #[strL (xs.getD k [])] := by
  have h' : k < xs.length := by simpa using h
  simp [List.getD, h']
theorem getD_mem {xs : List (List UInt8)} {k : Nat} (h : k < (xs.map fun x => #[strL x]).length) : xs.getD k [] ∈ xs := by
  have h' : k < xs.length := by simpa using h
  simp [List.getD, h']

/-- Between two rounds of the outer loop. -/
def PcI0 (l : List UInt8) (w : World) (B0 k : Nat) (W : World) : Prop :=
  Boxed W B0 24 nilS ∧ Boxed W (B0 + 1) 4 (.bool false) ∧ W.heap[B0 + 6]? = some (.deferred (some [])) ∧ Below B0 w W ∧ B0 + 8 ≤ W.heap.size ∧
    (∃ a n c, Boxed W (B0 + 2) 24 (.slice a n c) ∧ MatI (B0 + 8) W.heap.size W (.slice a n c) ((parM l).take k)) ∧ ∀ r ∈ (cutLD 59 l).take k, ∀ f ∈ cutLD 44 r, POk f
/-- Behind a field that is no number. -/
def PcX (l : List UInt8) (w : World) (B0 : Nat) (W : World) : Prop :=
  Boxed W B0 24 nilS ∧ Boxed W (B0 + 1) 4 (.bool false) ∧ W.heap[B0 + 6]? = some (.deferred (some [])) ∧ Below B0 w W ∧ ¬ AllOk l
/-- Between two rounds of the inner loop. -/
def PcJ (tx : List UInt8) (W : World) (S0 j : Nat) (W' : World) : Prop :=
  Below S0 W W' ∧ S0 + 5 ≤ W'.heap.size ∧ (∃ a n c, Boxed W' S0 25 (.slice a n c) ∧ RowI (S0 + 5) W'.heap.size W' (.slice a n c) ((rowN tx).take j)) ∧ ∀ f ∈ (cutLD 44 tx).take j, POk f
theorem PcI0.grown {l : List UInt8} {w : World} {B0 k x : Nat} {W W' : World} (h : PcI0 l w B0 k W) (hg : W.grownBy W' (some x)) (hx : x = B0 + 3 ∨ x = B0 + 7) : PcI0 l w B0 k W' := by
  obtain ⟨h1, h2, h3, h4, h5, ⟨a, n, c, h6, h7⟩, h8⟩ := h
  have hne : ∀ b, b ≤ B0 + 2 → some b ≠ some x := fun b hb e => by have := Option.some.inj e; omega
  exact ⟨h1.kept hg (hne _ (by omega)), h2.kept hg (hne _ (by omega)), heap_grown h3 hg (by omega), h4.grown hg (by have := h4.size; omega) (fun k hk => by have := Option.some.inj hk; omega), by have := hg.size; omega,
    ⟨a, n, c, h6.kept hg (hne _ (by omega)), (h7.same (sameIn_grownD hg (Nat.le_refl _) (by omega))).mono (Nat.le_refl _) hg.size⟩, h8⟩
theorem PcX.grown {l : List UInt8} {w : World} {B0 x : Nat} {W W' : World} (h : PcX l w B0 W) (hg : W.grownBy W' (some x)) (hx : B0 + 6 < x ∨ x = B0 + 3) : PcX l w B0 W' := by
  obtain ⟨h1, h2, h3, h4, h5⟩ := h
  have hne : ∀ b, b ≤ B0 + 2 → some b ≠ some x := fun b hb e => by have := Option.some.inj e; omega
  exact ⟨h1.kept hg (hne _ (by omega)), h2.kept hg (hne _ (by omega)), heap_grown h3 hg (by omega), h4.grown hg (by have := h1.lt; omega) (fun k hk => by have := Option.some.inj hk; omega), h5⟩
theorem PcJ.grown {tx : List UInt8} {W : World} {S0 j x : Nat} {W1 W2 : World} (h : PcJ tx W S0 j W1) (hg : W1.grownBy W2 (some x)) (hx : x = S0 + 1 ∨ x = S0 + 4) : PcJ tx W S0 j W2 := by
  obtain ⟨h1, h2, ⟨a, n, c, h3, h4⟩, h5⟩ := h
  exact ⟨h1.grown hg (by omega) (fun k hk => by have := Option.some.inj hk; omega), by have := hg.size; omega,
    ⟨a, n, c, h3.kept hg (fun e => by have := Option.some.inj e; omega), (h4.other hg (by omega)).mono (Nat.le_refl _) hg.size⟩, h5⟩

theorem pcI0_start {l : List UInt8} {w W0 : World} {B0 : Nat} (hz0 : W0.heap.size = B0 + 6) (b0 : Boxed W0 B0 24 nilS) (b1 : Boxed W0 (B0 + 1) 4 (.bool false)) (b2 : Boxed W0 (B0 + 2) 24 nilS) (hbe : Below B0 w W0) (hS0 : SplitR 59 l (B0 + 3) 0 W0) (o : Obj) :
    PcI0 l w B0 0 ((W0.alloc (.deferred (some []))).alloc o) ∧ SplitR 59 l (B0 + 3) 0 ((W0.alloc (.deferred (some []))).alloc o) := by
  have hal : Below (B0 + 6) W0 ((W0.alloc (.deferred (some []))).alloc o) := ((Below.refl _ _).alloc (by omega) _).alloc (by simp; omega) _
  have hz1 : ((W0.alloc (.deferred (some []))).alloc o).heap.size = B0 + 8 := by simp; omega
  refine ⟨⟨boxed_below b0 hal (by omega), boxed_below b1 hal (by omega), ?_, hbe.trans (hal.mono (by omega)), by rw [hz1]; exact Nat.le_refl _, ⟨none, 0, 0, boxed_below b2 hal (by omega), ?_⟩, by simp⟩, hS0.below hal (by omega)⟩
  · have h6 := heap_last hz0 (.deferred (some []))
    exact ((MapKept.heap_alloc _ _).2 _ (by simp; omega)).trans h6
  · rw [List.take_zero]; exact MatI.nil _ _ _

theorem pc_end0 {w W : World} {B0 : Nat} {v c : Value} {m : List (List Int)} (k1 : Boxed W B0 24 v) (k2 : Boxed W (B0 + 1) 4 c) (_hK : W.heap[B0 + 6]? = some (.deferred (some []))) (hbe : Below B0 w W) (hm : MatI (B0 + 8) W.heap.size W v m) :
    (W.putObj (B0 + 6) (.deferred none)).cell? ⟨B0, 0, none⟩ = some v ∧ (W.putObj (B0 + 6) (.deferred none)).cell? ⟨B0 + 1, 0, none⟩ = some c ∧ OwnM B0 (W.putObj (B0 + 6) (.deferred none)).heap.size (W.putObj (B0 + 6) (.deferred none)) v m ∧ Below B0 w (W.putObj (B0 + 6) (.deferred none)) := by
  have hg := grownBy_putObj' W (B0 + 6) (.deferred none)
  refine ⟨(k1.kept hg (fun e => by have := Option.some.inj e; omega)).cell, (k2.kept hg (fun e => by have := Option.some.inj e; omega)).cell, ⟨(hm.same (sameIn_grownD hg (Nat.le_refl _) (by omega))).mono (by omega) hg.size, Nat.le_refl _⟩,
    hbe.grown hg (by have := k1.lt; omega) (fun k hk => by have := Option.some.inj hk; omega)⟩
theorem pc_set {w W : World} {B0 : Nat} {v v' c c' : Value} {m : List (List Int)} (k1 : Boxed W B0 24 v) (k2 : Boxed W (B0 + 1) 4 c) (hK : W.heap[B0 + 6]? = some (.deferred (some []))) (hbe : Below B0 w W) (hm : MatI (B0 + 8) W.heap.size W v' m) (v'' : Value) :
    Boxed ((W.setCell ⟨B0, 0, none⟩ v'').setCell ⟨B0 + 1, 0, none⟩ c') B0 24 v'' ∧ Boxed ((W.setCell ⟨B0, 0, none⟩ v'').setCell ⟨B0 + 1, 0, none⟩ c') (B0 + 1) 4 c' ∧ ((W.setCell ⟨B0, 0, none⟩ v'').setCell ⟨B0 + 1, 0, none⟩ c').heap[B0 + 6]? = some (.deferred (some [])) ∧
      Below B0 w ((W.setCell ⟨B0, 0, none⟩ v'').setCell ⟨B0 + 1, 0, none⟩ c') ∧ MatI (B0 + 8) ((W.setCell ⟨B0, 0, none⟩ v'').setCell ⟨B0 + 1, 0, none⟩ c').heap.size ((W.setCell ⟨B0, 0, none⟩ v'').setCell ⟨B0 + 1, 0, none⟩ c') v' m := by
  have g1 := grownBy_setCell' W B0 v''
  have g2 := grownBy_setCell' (W.setCell ⟨B0, 0, none⟩ v'') (B0 + 1) c'
  have hW := k1.lt
  refine ⟨boxed_other (k1.set v'') (by omega) c', (boxed_other k2 (by omega) v'').set c', heap_grown (heap_grown hK g1 (by omega)) g2 (by omega),
    (hbe.grown g1 (by omega) (fun k hk => by have := Option.some.inj hk; omega)).grown g2 (by have := g1.size; omega) (fun k hk => by have := Option.some.inj hk; omega),
    (hm.same ((sameIn_grownD g1 (Nat.le_refl _) (by omega)).trans (sameIn_grownD g2 g1.size (by omega)))).mono (Nat.le_refl _) (Nat.le_trans g1.size g2.size)⟩

theorem pcI0_next {l tx : List UInt8} {w W W' w2 : World} {B0 S0 k : Nat} {a n c : _} {v : Value} {r : Loop} (hs0 : W.heap.size = S0) (hr : W.heap[B0 + 7]? = some (.loop r)) (h1 : Boxed W B0 24 nilS) (h2 : Boxed W (B0 + 1) 4 (.bool false)) (h3 : W.heap[B0 + 6]? = some (.deferred (some [])))
    (h4 : Below B0 w W) (h5 : B0 + 8 ≤ W.heap.size) (h6 : Boxed W (B0 + 2) 24 (.slice a n c)) (h8 : ∀ r ∈ (cutLD 59 l).take k, ∀ f ∈ cutLD 44 r, POk f) (hR : SplitR 59 l (B0 + 3) k W)
    (hb : Below S0 W W') (hq : Below (B0 + 8) W' w2) (hA8 : ∀ r ∈ (cutLD 59 l).take (k + 1), r ∈ (cutLD 59 l).take k ∨ r = tx) (hf : ∀ f ∈ cutLD 44 tx, POk f) (hv : ∃ a' n' c', v = .slice a' n' c') (hm : MatI (B0 + 8) w2.heap.size w2 v ((parM l).take (k + 1))) :
    (w2.setCell ⟨B0 + 2, 0, none⟩ v).heap[B0 + 7]? = some (.loop r) ∧ PcI0 l w B0 (k + 1) (w2.setCell ⟨B0 + 2, 0, none⟩ v) ∧ SplitR 59 l (B0 + 3) k (w2.setCell ⟨B0 + 2, 0, none⟩ v) := by
  obtain ⟨a', n', c', rfl⟩ := hv
  have t : Below (B0 + 8) W w2 := (hb.mono (by omega)).trans hq
  have g := grownBy_setCell' w2 (B0 + 2) (.slice a' n' c')
  have hz := t.size
  refine ⟨heap_grown ((t.block _ (by omega)).trans hr) g (by omega), ⟨boxed_other (boxed_below h1 t (by omega)) (by omega) _, boxed_other (boxed_below h2 t (by omega)) (by omega) _, heap_grown ((t.block _ (by omega)).trans h3) g (by omega),
    (h4.trans (t.mono (by omega))).grown g (by omega) (fun k hk => by have := Option.some.inj hk; omega), by have := g.size; omega, ⟨a', n', c', (boxed_below h6 t (by omega)).set _, (hm.same (sameIn_grownD g (Nat.le_refl _) (by omega))).mono (Nat.le_refl _) g.size⟩, fun r hr => ?_⟩, (hR.below t (by omega)).grown g (.inl (by omega))⟩
  rcases hA8 r hr with h | h
  · exact h8 r h
  · rw [h]; exact hf
theorem pcJ_start {tx : List UInt8} {W : World} {S0 : Nat} (hs0 : W.heap.size = S0) (o : Obj) :
    PcJ tx W S0 0 ((splitW (W.alloc (.cells #[.slice none 0 0] 25)) tx 44).alloc o) ∧ SplitR 44 tx (S0 + 1) 0 ((splitW (W.alloc (.cells #[.slice none 0 0] 25)) tx 44).alloc o) := by
  have hz : (splitW (W.alloc (.cells #[.slice none 0 0] 25)) tx 44).heap.size = S0 + 4 := by rw [splitW_size]; simp; omega
  have hS := splitW_start (W.alloc (.cells #[.slice none 0 0] 25)) tx 44
  have hq := splitW_below (W.alloc (.cells #[.slice none 0 0] 25)) tx 44
  have b := Boxed.new W 25 (.slice none 0 0)
  have hz1 : (W.alloc (.cells #[.slice none 0 0] 25)).heap.size = S0 + 1 := by simp; omega
  rw [hz1] at hS hq
  rw [hs0] at b
  have ha : Below (S0 + 4) (splitW (W.alloc (.cells #[.slice none 0 0] 25)) tx 44) ((splitW (W.alloc (.cells #[.slice none 0 0] 25)) tx 44).alloc o) := (Below.refl _ _).alloc (by omega) _
  refine ⟨⟨(((Below.refl S0 W).alloc (by omega) _).trans (hq.mono (by omega))).trans (ha.mono (by omega)), by simp; omega, ⟨none, 0, 0, boxed_below (boxed_below b hq (by omega)) ha (by omega), ?_⟩, by simp⟩, hS.below ha (by omega)⟩
  rw [List.take_zero]
  exact ⟨World.ownsRow_nil _ _ _ _, fun g h => by simp [Value.ownBlock] at h⟩

theorem pcJ_next {tx : List UInt8} {W W' w2 : World} {S0 j : Nat} {a n c : _} {v : Value} {r : Loop} (hr : W'.heap[S0 + 4]? = some (.loop r)) (hb : Below S0 W W') (hz : S0 + 5 ≤ W'.heap.size) (hbx : Boxed W' S0 25 (.slice a n c)) (hf : ∀ f ∈ (cutLD 44 tx).take (j + 1), POk f)
    (hR : SplitR 44 tx (S0 + 1) j W') (hq : Below (S0 + 5) W' w2) (hv : ∃ a' n' c', v = .slice a' n' c') (hm : RowI (S0 + 5) w2.heap.size w2 v ((rowN tx).take (j + 1))) :
    (w2.setCell ⟨S0, 0, none⟩ v).heap[S0 + 4]? = some (.loop r) ∧ PcJ tx W S0 (j + 1) (w2.setCell ⟨S0, 0, none⟩ v) ∧ SplitR 44 tx (S0 + 1) j (w2.setCell ⟨S0, 0, none⟩ v) := by
  obtain ⟨a', n', c', rfl⟩ := hv
  have g := grownBy_setCell' w2 S0 (.slice a' n' c')
  have hs := hq.size
  refine ⟨heap_grown ((hq.block _ (by omega)).trans hr) g (by omega), ⟨(hb.trans (hq.mono (by omega))).grown g (by omega) (fun k hk => by have := Option.some.inj hk; omega), by have := g.size; omega,
    ⟨a', n', c', (boxed_below hbx hq (by omega)).set _, (hm.other g (by omega)).mono (Nat.le_refl _) g.size⟩, hf⟩, (hR.below hq (by omega)).grown g (.inl (by omega))⟩
theorem pcX_new {l : List UInt8} {w W W' w1 : World} {B0 S0 : Nat} {r r2 : Loop} (hs0 : W.heap.size = S0) (hr : W.heap[B0 + 7]? = some (.loop r)) (hr2 : W'.heap[S0 + 4]? = some (.loop r2)) (h1 : Boxed W B0 24 nilS) (h2 : Boxed W (B0 + 1) 4 (.bool false)) (h3 : W.heap[B0 + 6]? = some (.deferred (some [])))
    (h4 : Below B0 w W) (h5 : B0 + 8 ≤ W.heap.size) (hb : Below S0 W W') (hq : Below W'.heap.size W' w1) (hn : ¬ AllOk l) :
    ((w1.setCell ⟨B0, 0, none⟩ (.slice none 0 0)).setCell ⟨B0 + 1, 0, none⟩ (.bool false)).heap[S0 + 4]? = some (.loop r2) ∧ PcX l w B0 ((w1.setCell ⟨B0, 0, none⟩ (.slice none 0 0)).setCell ⟨B0 + 1, 0, none⟩ (.bool false)) ∧ ((w1.setCell ⟨B0, 0, none⟩ (.slice none 0 0)).setCell ⟨B0 + 1, 0, none⟩ (.bool false)).heap[B0 + 7]? = some (.loop r) := by
  have hz := hb.size
  have hz1 := hq.size
  have t : Below S0 W w1 := hb.trans (hq.mono (by omega))
  have g1 := grownBy_setCell' w1 B0 (.slice none 0 0)
  have g2 := grownBy_setCell' (w1.setCell ⟨B0, 0, none⟩ (.slice none 0 0)) (B0 + 1) (.bool false)
  obtain ⟨q1, q2, q3, q4, _⟩ := pc_set (c' := .bool false) (m := []) (v' := nilS) (boxed_below h1 t (by omega)) (boxed_below h2 t (by omega)) ((t.block _ (by omega)).trans h3) (h4.trans (t.mono (by omega))) (MatI.nil _ _ _) (.slice none 0 0)
  refine ⟨heap_grown (heap_grown ((hq.block _ (Array.getElem?_eq_some_iff.1 hr2).1).trans hr2) g1 (by omega)) g2 (by omega), ⟨q1, q2, q3, q4, hn⟩, heap_grown (heap_grown ((t.block _ (by omega)).trans hr) g1 (by omega)) g2 (by omega)⟩

theorem parM_fit {l : List UInt8} (hs : l.length ≤ 1048576) : RowsFit (parM l) := by
  refine ⟨by have := parM_len l; unfold maxLen; omega, fun j hj => ?_⟩
  have hj' : j < (cutLD 59 l).length := by simpa [parM] using hj
  have e : (parM l)[j] = rowN (cutLD 59 l)[j] := by simp [parM]
  rw [e]
  have h1 := rowN_len (cutLD 59 l)[j]
  have h2 := cutL_mem_len 59 l _ (List.getElem_mem hj')
  unfold maxLen; omega

end Go.Proofs.YtfjeghalkmkgoaaGreatDoor
