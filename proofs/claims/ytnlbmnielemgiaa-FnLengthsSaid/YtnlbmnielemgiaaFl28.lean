/-
  Rows of bools of the call's own, an append whose row's place is told, and the library's sort on a row of ints.
  The search through a diagram, as the program (partFrom) and the model (l3Part) walk it: what each call returns.
  All sets of points in the order of binary numbers, principal minors and the first set whose minor is not positive (no walk here).
-/
import Derived.Lib.SlKeysI
import Derived.Lib.AppendZeros
import Derived.Test.YtnlbmnielemgiaaFl25
import Derived.Test.YtnlbmnielemgiaaFl27
import Derived.Test.YtnlbmnielemgiaaFl26
namespace Go.Proofs.Ytnlbmnielemgiaa
open Go.RowKit

/-! ### Rows of bools -/
def boolsV (s : List Bool) : List Value := s.map Value.bool
theorem boolsV_len (s : List Bool) : (boolsV s).length = s.length := by simp [boolsV]
theorem boolsV_set (s : List Bool) (j : Nat) (x : Bool) : (boolsV s).set j (.bool x) = boolsV (s.set j x) := by simp [boolsV, List.map_set]
theorem Try.infoBool : (Try.prog.info? 4).map (fun i => (i.zero, i.size, i.bytes)) = some (some (.bool false), 1, 1) := by kernel_rfl
theorem madeBools (n : Nat) : (madeCells (Value.bool false).cells n).toList = boolsV (List.replicate n false) := by
  apply List.ext_getElem
  · simp [madeCells, boolsV]
  · intro i h1 h2
    simp [madeCells, boolsV, Value.cells, Nat.mod_one]
/-- The bools of a row of the call's own in block g. -/
def SeenI (A : Nat) (w : World) (g n : Nat) (s : List Bool) : Prop := s.length = n ∧ w.ownsRow A 4 1 (.slice (some ⟨g, 0, none⟩) n n) n (boolsV s)
theorem seen_made (w : World) (n : Nat) (hn : n ≤ 1048576) : SeenI w.heap.size (w.alloc (.cells (boolsV (List.replicate n false)).toArray 4)) w.heap.size n (List.replicate n false) :=
  ⟨by simp, World.ownsRow_lit (base := w.heap.size) (e := 4) (size := 1) w (boolsV (List.replicate n false)).toArray n (Nat.le_refl _) (by unfold maxLen; omega) (by simp [boolsV])⟩
theorem SeenI.lt {A : Nat} {w : World} {g n : Nat} {s : List Bool} (h : SeenI A w g n s) : A ≤ g ∧ g < w.heap.size := h.2.lt g rfl
theorem SeenI.cell {A : Nat} {w : World} {g n : Nat} {s : List Bool} (h : SeenI A w g n s) {j : Nat} (hj : j < n) : w.cell? ⟨g, j, none⟩ = some (.bool (s.getD j false)) := by
  have hl := h.1
  rw [h.2.cellAt j (by omega)]
  simp [boolsV, List.getD, show j < s.length by omega]
theorem SeenI.frozen {A : Nat} {w : World} {g n : Nat} {s : List Bool} (h : SeenI A w g n s) (j : Nat) : w.frozen? ⟨g, j, none⟩ = false := h.2.frozenAt j
theorem SeenI.put {A : Nat} {w : World} {g n : Nat} {s : List Bool} (h : SeenI A w g n s) (j : Nat) (x : Bool) :
    SeenI A (w.setCell ⟨g, j, none⟩ (.bool x)) g n (s.set j x) ∧ w.grownBy (w.setCell ⟨g, j, none⟩ (.bool x)) (some g) := by
  obtain ⟨h1, h2⟩ := h.2.stored j (.bool x)
  rw [boolsV_set] at h1
  exact ⟨⟨by rw [List.length_set]; exact h.1, h1⟩, h2⟩
theorem SeenI.keep {A : Nat} {w w' : World} {g n : Nat} {s : List Bool} {S : Option Nat} (h : SeenI A w g n s) (hg : w.grownBy w' S) (hne : S ≠ some g) : SeenI A w' g n s :=
  ⟨h.1, h.2.kept hg (Or.inr fun e => hne (by rw [← e]; rfl))⟩
theorem SeenI.mono {A A' : Nat} {w : World} {g n : Nat} {s : List Bool} (h : SeenI A w g n s) (hA : A' ≤ A) : SeenI A' w g n s :=
  ⟨h.1, h.2.1, by
    rcases h.2.2 with ⟨h', _⟩ | ⟨g', cap, cur, h3, h4, h5⟩
    · cases h'
    · exact Or.inr ⟨g', cap, cur, h3, by omega, h5⟩⟩
theorem SeenI.below {A : Nat} {w w' : World} {g n : Nat} {s : List Bool} {C : Nat} (h : SeenI A w g n s) (hb : Below C w w') (hC : g < C) : SeenI A w' g n s := by
  refine ⟨h.1, h.2.1, ?_⟩
  rcases h.2.2 with ⟨h', _⟩ | ⟨g', cap, cur, h3, h4, h5, h6⟩
  · cases h'
  · have e : g' = g := by simp at h3; exact h3.1.symm
    exact Or.inr ⟨g', cap, cur, h3, h4, by rw [hb.block g' (by omega)]; exact h5, h6⟩

/-- Two rows whose elements are of two types lie in two blocks. -/
theorem own_differ {w : World} {A A' : Nat} {e e' : TypeId} {u v : Value} {n n' : Nat} {xs ys : List Value} (hee : e ≠ e') (h : w.ownsRow A e 1 u n xs) (h' : w.ownsRow A' e' 1 v n' ys) : v.ownBlock = none ∨ v.ownBlock ≠ u.ownBlock := by
  rcases h'.2 with ⟨rfl, _⟩ | ⟨g', cap', cur', rfl, _, hg', _⟩
  · exact Or.inl rfl
  · right
    rcases h.2 with ⟨rfl, _⟩ | ⟨g, cap, cur, rfl, _, hg, _⟩
    · simp [Value.ownBlock]
    · intro e
      have e2 : g' = g := by simpa [Value.ownBlock] using e
      subst e2
      rw [hg] at hg'
      have := Option.some.inj hg'
      simp at this
      exact hee this.2
theorem SeenI.row_ne {A A' B' : Nat} {w : World} {g n : Nat} {s : List Bool} {v : Value} {l : List Int} (h : SeenI A w g n s) (hr : RowI A' B' w v l) : v.ownBlock = none ∨ v.ownBlock ≠ some g :=
  own_differ (by decide) h.2 hr.1
theorem SeenI.ne_row {A A' B' : Nat} {w : World} {g n : Nat} {s : List Bool} {v : Value} {l : List Int} (h : SeenI A w g n s) (hr : RowI A' B' w v l) : v.ownBlock ≠ some g := by
  rcases h.row_ne hr with h1 | h1
  · rw [h1]; simp
  · exact h1
theorem MatI.keep {A B A' : Nat} {w w' : World} {v : Value} {m : List (List Int)} {g n : Nat} {s : List Bool} (h : MatI A B w v m) (hs : SeenI A' w g n s) (hg : w.grownBy w' (some g)) : MatI A B w' v m := by
  obtain ⟨hh, h1, h2, h3, h4⟩ := h
  refine ⟨hh, h1.kept hg ?_, h2, fun j hj => ?_, h4⟩
  · exact own_differ (by decide) hs.2 h1
  · obtain ⟨hv, h5, h6⟩ := h3 j hj
    exact ⟨hv, h5, h6.kept hg (hs.row_ne h6)⟩

/-- Growth and writes in blocks that are new. -/
theorem grown_new {w a b : World} {S S' : Option Nat} (h : w.grownBy a S) (k : a.grownBy b S') (hn : ∀ x, S' = some x → w.heap.size ≤ x) : w.grownBy b S :=
  ⟨k.os.trans h.os, k.tape.trans h.tape, k.output.trans h.output, Nat.le_trans h.size k.size, fun i hi hne => by
    rw [k.block i (Nat.lt_of_lt_of_le hi h.size) (fun e => by have := hn i e.symm; omega)]
    exact h.block i hi hne⟩
theorem grown_below {w a b : World} {S : Option Nat} (h : w.grownBy a S) (k : Below a.heap.size a b) : w.grownBy b S :=
  ⟨k.os.trans h.os, k.tape.trans h.tape, k.output.trans h.output, Nat.le_trans h.size k.size, fun i hi hne => by
    rw [k.block i (Nat.lt_of_lt_of_le hi h.size)]
    exact h.block i hi hne⟩

/-! ### append(row, x), told where the new row lies -/
set_option maxRecDepth 100000 in
theorem append_intG {ops : Array Oper} {rest : List Oper} {o : Oper} {a : Act} {Q : Exit → Act → World → Prop} {s x : Operand} {A q : Nat} {v : Value} {l : List Int} {wr : World}
    (hM : RowI A wr.heap.size wr v l) (hA : A ≤ wr.heap.size) (hq : q = wr.heap.size) (n : Int) (h0 : l ≠ []) (hgd : o.guard = none)
    (ho : o.op = .call { callee := .builtin .append, args := #[s, x], argTypes := #[25, 25] }) (hs : a.eval s = v)
    (hx : a.eval x = .slice (some ⟨q, 0, none⟩) 1 1) (hlen : l.length ≤ 4194304)
    (h : ∀ v' w', RowI A w'.heap.size w' v' (l ++ [n]) → wr.grownBy w' v.ownBlock → (∀ g, v'.ownBlock = some g → v.ownBlock = some g ∨ wr.heap.size ≤ g) → wpList Try.prog ops Q rest (a.put o.dst v') w') :
    wpList Try.prog ops Q (o :: rest) a (wr.alloc (.cells #[.int .i64 n] 3)) := by
  subst hq
  obtain ⟨h1, h2⟩ := hM
  obtain ⟨i0, hi, hz0, hz1, hz2⟩ := info_parts Try.infoInt
  have h1a := h1.alloc (.cells #[.int .i64 n] 3)
  have hnew : ∀ j u, [Value.int .i64 n][j]? = some u → (wr.alloc (.cells #[.int .i64 n] 3)).cell? ((⟨wr.heap.size, 0, none⟩ : Addr).add j) = some u := by
    intro j u hu
    match j, hu with
    | 0, hu =>
      simp at hu
      subst hu
      rw [Addr.add_lit, cell_of_row _ wr.heap.size 0 _ _ _ (MapKept.heap_alloc wr _).1]
      rfl
    | j + 1, hu => simp at hu
  have hone : ∀ u ∈ [Value.int .i64 n], u.oneCell' = true := by
    intro u hu
    simp at hu
    subst hu
    rfl
  have hlv : (intsV l).length = l.length := intsV_len l
  obtain ⟨v', w', hr, h3, h4, _⟩ := run_append_own (P := Try.prog) (wr.alloc (.cells #[.int .i64 n] 3)) A 25 o.type 3 i0 (.int .i64 0) 1 8 Try.underlying25 hi hz0 hz1 hz2 rfl (by omega) v l.length (intsV l) h1a ⟨wr.heap.size, 0, none⟩ 1 1 [.int .i64 n] rfl hnew hone (by unfold maxLen; omega) (by omega) (by simp; omega)
  have hloc : ∀ g, v'.ownBlock = some g → v.ownBlock = some g ∨ wr.heap.size ≤ g := by
    rcases h1.2 with ⟨rfl, he⟩ | ⟨g, cap, cur, rfl, hAg, hg, hn, hc, hsz, ht⟩
    · exact absurd (List.eq_nil_of_length_eq_zero he) h0
    · have hga : (wr.alloc (.cells #[.int .i64 n] 3)).heap[g]? = some (.cells cur 3 (0, 0)) := by
        rw [(MapKept.heap_alloc wr _).2 g (Array.getElem?_eq_some_iff.1 hg).1]; exact hg
      by_cases hroom : l.length + 1 ≤ cap
      · have hr2 := run_append_room (P := Try.prog) (wr.alloc (.cells #[.int .i64 n] 3)) 25 o.type 3 i0 Try.underlying25 hi g l.length cap cur hga ⟨wr.heap.size, 0, none⟩ 1 1 [.int .i64 n] (by rw [hz1]; rfl) hnew hone hroom (by rw [hz1]; simp; omega)
        rw [hr] at hr2
        injection hr2 with e1 e2
        subst e1
        intro g' hg'
        exact Or.inl hg'
      · have hr2 := run_append_grow (P := Try.prog) (wr.alloc (.cells #[.int .i64 n] 3)) 25 o.type 3 i0 (.int .i64 0) Try.underlying25 hi hz0 ⟨g, 0, none⟩ l.length cap (intsV l) (by rw [hz1, hlv]; omega) (h1a.cells (g := g) rfl) ⟨wr.heap.size, 0, none⟩ 1 1 [.int .i64 n] (by rw [hz1]; rfl) hnew (by omega) (by omega) (growslice_fits (by omega) (by rw [hz2]; omega))
        rw [hr] at hr2
        injection hr2 with e1 e2
        subst e1
        intro g' hg'
        right
        have : (wr.alloc (.cells #[.int .i64 n] 3)).heap.size = g' := by simpa [Value.ownBlock] using hg'
        simp at this
        omega
  refine Lib.wpList_append_run _ hgd s x 25 25 ho _ _ hs hx v' w' hr ?_
  refine h v' w' ⟨?_, fun g hgg => (h3.lt g hgg).2⟩ ⟨h4.os, h4.tape, h4.output, by have := h4.size; simp at this; omega, fun k hk hn => ?_⟩ hloc
  · have e : intsV l ++ [.int .i64 n] = intsV (l ++ [n]) := by simp [intsV]
    rw [e] at h3
    rw [List.length_append]
    exact h3
  · rw [h4.block k (by simp; omega) hn]
    exact (MapKept.heap_alloc wr _).2 k hk

/-! ### The library's sort -/
end Go.Proofs.Ytnlbmnielemgiaa
namespace Go.Proofs.Ytnlbmnielemgiaa
open Go.RowKit

def nbG (m : List (List Int)) (n p : Nat) : List Nat := (List.range n).filter (nbF m p)
def intL (q : List Nat) : List Int := q.map fun (j : Nat) => (j : Int)
theorem intL_len (q : List Nat) : (intL q).length = q.length := by simp [intL]
theorem intL_get (q : List Nat) (k : Nat) (h : k < q.length) : (intL q).getD k 0 = ((q.getD k 0 : Nat) : Int) := by simp [intL, List.getD, h]
theorem intL_snoc (q : List Nat) (j : Nat) : intL q ++ [(j : Int)] = intL (q ++ [j]) := by simp [intL]
theorem nbK_eq (m : List (List Int)) (p n : Nat) : nbK m p n = intL (nbG m n p) := rfl
theorem nbG_in (m : List (List Int)) (n : Nat) : GrIn (nbG m n) n := fun p k hk => by
  have h1 : (nbG m n p).getD k 0 = (nbG m n p)[k] := by simp [List.getD, hk]
  rw [h1]
  have h3 := (List.mem_filter.1 (show (nbG m n p)[k] ∈ (List.range n).filter (nbF m p) from List.getElem_mem hk)).1
  exact List.mem_range.1 h3
/-- The state of the search in the world wi: the queue, and what is seen. -/
def BfsAt (A : Nat) (w : World) (g n : Nat) (x : Value) (st : List Bool × List Nat) (wi : World) : Prop :=
  RowI w.heap.size wi.heap.size wi x (intL st.2) ∧ SeenI A wi g n st.1 ∧ w.grownBy wi (some g)
theorem row_lit (w : World) (p : Int) : RowI w.heap.size (w.alloc (.cells #[.int .i64 p] 3)).heap.size (w.alloc (.cells #[.int .i64 p] 3)) (.slice (some ⟨w.heap.size, 0, none⟩) 1 1) [p] :=
  ⟨World.ownsRow_lit w #[.int .i64 p] 1 (Nat.le_refl _) (by unfold maxLen; omega) rfl, fun g hg => by
    have : w.heap.size = g := by simpa [Value.ownBlock] using hg
    simp; omega⟩
theorem bfs_start {A : Nat} {w : World} {g n p : Nat} {s : List Bool} (hs : SeenI A w g n s) :
    BfsAt A w g n (.slice (some ⟨w.heap.size, 0, none⟩) 1 1) (start n p s) ((w.alloc (.cells #[.int .i64 (p : Int)] 3)).setCell ⟨g, p, none⟩ (.bool true)) := by
  have hs1 : SeenI A (w.alloc (.cells #[.int .i64 (p : Int)] 3)) g n s := hs.keep (World.grownBy_alloc w _ none) (by simp)
  obtain ⟨h1, h2⟩ := hs1.put p true
  have h3 : SeenI A ((w.alloc (.cells #[.int .i64 (p : Int)] 3)).setCell ⟨g, p, none⟩ (.bool true)) g n (s.set p true) := h1
  refine ⟨?_, h3, grown_trans (World.grownBy_alloc w _ _) h2⟩
  have h4 := (row_lit w p).kept h2 (hs1.row_ne (row_lit w p))
  exact h4.mono (Nat.le_refl _) h2.size
/-- The same, the store ahead of the literal. -/
theorem bfs_start2 {A : Nat} {w : World} {g n p : Nat} {s : List Bool} (hs : SeenI A w g n s) :
    BfsAt A w g n (.slice (some ⟨w.heap.size, 0, none⟩) 1 1) (start n p s) ((w.setCell ⟨g, p, none⟩ (.bool true)).alloc (.cells #[.int .i64 (p : Int)] 3)) := by
  obtain ⟨h1, h2⟩ := hs.put p true
  have h3 : SeenI A ((w.setCell ⟨g, p, none⟩ (.bool true)).alloc (.cells #[.int .i64 (p : Int)] 3)) g n (s.set p true) := h1.keep (World.grownBy_alloc _ _ none) (by simp)
  refine ⟨?_, h3, grown_trans h2 (World.grownBy_alloc _ _ _)⟩
  have h4 := row_lit (w.setCell ⟨g, p, none⟩ (.bool true)) p
  rw [World.size_setCell] at h4
  exact h4
theorem bfs_below {A B : Nat} {w wi : World} {g n : Nat} {x : Value} {st : List Bool × List Nat} (h : BfsAt A w g n x st wi) (hB : B ≤ w.heap.size) (hA : B ≤ A) : Below B w wi :=
  (Below.refl B w).grown h.2.2 hB (fun k hk => by injection hk with hk; have := h.2.1.lt.1; omega)
/-- Across a call that makes memory only. -/
theorem bfs_step {A : Nat} {w wi w2 : World} {g n : Nat} {x : Value} {st : List Bool × List Nat} (h : BfsAt A w g n x st wi) (hb : Below wi.heap.size wi w2) : BfsAt A w g n x st w2 :=
  ⟨h.1.step hb, h.2.1.below hb h.2.1.lt.2, grown_below h.2.2 hb⟩
/-- After the mark: what holds ahead of the append. -/
theorem bfs_mark {A : Nat} {w wi : World} {g n : Nat} {x : Value} {st : List Bool × List Nat} (h : BfsAt A w g n x st wi) (j : Nat) :
    BfsAt A w g n x (st.1.set j true, st.2) (wi.setCell ⟨g, j, none⟩ (.bool true)) := by
  obtain ⟨h1, h2⟩ := h.2.1.put j true
  exact ⟨(h.1.kept h2 (h.2.1.row_ne h.1)).mono (Nat.le_refl _) h2.size, h1, grown_trans h.2.2 h2⟩
theorem bfs_push {A : Nat} {w wi w3 : World} {g n j : Nat} {x y : Value} {st : List Bool × List Nat} (hm : BfsAt A w g n x (st.1.set j true, st.2) wi) (hj : st.1.getD j false = false)
    (hr : RowI w.heap.size w3.heap.size w3 y (intL st.2 ++ [(j : Int)])) (hg : wi.grownBy w3 x.ownBlock) : BfsAt A w g n y (visit1 st j) w3 := by
  have hv : visit1 st j = (st.1.set j true, st.2 ++ [j]) := by unfold visit1; rw [hj]; rfl
  rw [hv]
  refine ⟨?_, hm.2.1.keep hg (hm.2.1.ne_row hm.1), grown_new hm.2.2 hg (fun k hk => (hm.1.1.lt k hk).1)⟩
  rw [intL_snoc] at hr
  exact hr
theorem visit_seen {st : List Bool × List Nat} {j : Nat} (h : st.1.getD j false = true) : visit1 st j = st := by unfold visit1; rw [h]; rfl
/-- The neighbours' list is neither the queue nor what is seen. -/
theorem nb_keep {A C D : Nat} {w wi ws : World} {g n : Nat} {x xl : Value} {st : List Bool × List Nat} {l : List Int} (h : BfsAt A w g n x st wi) (hl : RowI C D wi xl l) (hg : wi.grownBy ws (some g)) : RowI C D ws xl l :=
  hl.kept hg (h.2.1.row_ne hl)
theorem nb_keep2 {C D : Nat} {wi ws : World} {x xl : Value} {l : List Int} (hl : RowI C D wi xl l) (hx : ∀ k, x.ownBlock = some k → k < C ∨ D ≤ k) (hg : wi.grownBy ws x.ownBlock) : RowI C D ws xl l := by
  refine hl.kept hg ?_
  cases hxl : xl.ownBlock with
  | none => exact Or.inl rfl
  | some k =>
    right
    intro e
    have h1 := (hl.1.lt k hxl).1
    have h2 := hl.2 k hxl
    have h3 := hx k e.symm
    omega

/-! ### The model's l3Part -/
end Go.Proofs.Ytnlbmnielemgiaa
namespace Go.Proofs.Ytnlbmnielemgiaa
open Go.RowKit

theorem fullM_get (f : Nat → Nat → Int) (n i : Nat) (h : i < n) : (fullF f n).getD i [] = rowF f n i := by simp [fullF, List.getD, h]
theorem fullM_entry (f : Nat → Nat → Int) (n i j : Nat) (hi : i < n) (hj : j < n) : entry (fullF f n) i j = f i j := by
  unfold entry
  rw [fullM_get f n i hi]
  simp [rowF, List.getD, hj]
/-! ### Sets by masks -/
def setK (mask k : Nat) : List Nat := (List.range k).filter fun i => mask.testBit i
def setsL (n k : Nat) : List (List Nat) := (List.range k).map fun t => setK (t + 1) n
theorem setK_yes {mask k : Nat} (h : mask.testBit k = true) : setK mask k ++ [k] = setK mask (k + 1) := by
  unfold setK
  rw [List.range_succ, List.filter_append, List.filter_cons_of_pos h]; rfl
theorem setK_no {mask k : Nat} (h : mask.testBit k = false) : setK mask k = setK mask (k + 1) := by
  unfold setK
  rw [List.range_succ, List.filter_append, List.filter_cons_of_neg (by rw [h]; simp)]; simp
theorem setK_len (mask k : Nat) : (setK mask k).length ≤ k := by
  unfold setK
  exact Nat.le_trans (List.length_filter_le _ _) (by rw [List.length_range]; exact Nat.le_refl _)
theorem setsL_len (n k : Nat) : (setsL n k).length = k := by simp [setsL]
theorem setsL_step (n k : Nat) : setsL n k ++ [setK (k + 1) n] = setsL n (k + 1) := by
  unfold setsL
  rw [List.range_succ, List.map_append]; rfl
theorem setsL_get (n k t : Nat) (h : t < k) : (setsL n k).getD t [] = setK (t + 1) n := by simp [setsL, List.getD, h]
def SetsOk (n : Nat) : Prop := ∀ t, t < 2 ^ n - 1 → (setK (t + 1) n).length ≠ 0 ∧ ∀ k, k < (setK (t + 1) n).length → (setK (t + 1) n).getD k 0 < n ∧ (0 < k → (setK (t + 1) n).getD (k - 1) 0 < (setK (t + 1) n).getD k 0)
instance (n : Nat) : Decidable (SetsOk n) := by unfold SetsOk; infer_instance
theorem sets_ok (n : Nat) (h : n ≤ 4) : SetsOk n := by
  rcases (show n = 0 ∨ n = 1 ∨ n = 2 ∨ n = 3 ∨ n = 4 by omega) with rfl | rfl | rfl | rfl | rfl <;> decide +kernel
theorem set_is {n : Nat} (h : n ≤ 4) {t : Nat} (ht : t < 2 ^ n - 1) : IsSet n (intL (setK (t + 1) n)) ∧ intL (setK (t + 1) n) ≠ [] := by
  obtain ⟨h0, h1⟩ := sets_ok n h t ht
  refine ⟨fun k hk => ?_, fun e => h0 (by have := congrArg List.length e; rw [intL_len] at this; exact this)⟩
  rw [intL_len] at hk
  obtain ⟨h2, h3⟩ := h1 k hk
  refine ⟨by rw [intL_get _ _ hk]; omega, fun ⟨h4, h5⟩ => ?_⟩
  rw [intL_get _ _ hk, intL_get _ _ (by omega)] at h5
  have := h3 h4
  omega
theorem set_sub {m : List (List Int)} (hI : IsC m) {t : Nat} (ht : t < 2 ^ m.length - 1) : SubOk m (intL (setK (t + 1) m.length)) :=
  ⟨hI, (set_is hI.2.2.2 ht).2, (set_is hI.2.2.2 ht).1⟩

/-! ### Minors -/
theorem pick_len (m : List (List Int)) (l : List Int) : (pick m l).length = l.length := fullF_len _ _
theorem pick_rows (m : List (List Int)) (l : List Int) : Rows0 (pick m l) l.length l.length := fun i hi => by
  unfold pick
  rw [fullM_get _ _ _ hi, rowF_len]
theorem pick_bd {m : List (List Int)} (hb : Bd m) (l : List Int) : Bd (pick m l) := fun i j => by
  unfold pick
  by_cases hi : i < l.length
  · by_cases hj : j < l.length
    · rw [fullM_entry _ _ _ _ hi hj]; exact hb _ _
    · have : entry (fullF (ptsF m l) l.length) i j = 0 := by
        unfold entry
        rw [fullM_get _ _ _ hi, List.getD_eq_getElem?_getD, List.getElem?_eq_none (by rw [rowF_len]; omega)]; rfl
      rw [this]; decide
  · have : entry (fullF (ptsF m l) l.length) i j = 0 := by
      unfold entry
      have e : (fullF (ptsF m l) l.length).getD i [] = [] := by rw [List.getD_eq_getElem?_getD, List.getElem?_eq_none (by rw [fullF_len]; omega)]; rfl
      rw [e]; simp
    rw [this]; decide
/-- The minor of the set with number t + 1. -/
def minP (m : List (List Int)) (t : Nat) : Int := detF (setK (t + 1) m.length).length (pick m (intL (setK (t + 1) m.length)))
def minK (m : List (List Int)) (k : Nat) : List Int := (List.range k).map (minP m)
theorem minK_step (m : List (List Int)) (k : Nat) : minK m k ++ [minP m k] = minK m (k + 1) := by
  unfold minK
  rw [List.range_succ, List.map_append]; rfl
theorem minK_len (m : List (List Int)) (k : Nat) : (minK m k).length = k := by simp [minK]
open Classical in
noncomputable def minV (m : List (List Int)) : List Int := if IsC m then minK m (2 ^ m.length - 1) else []
theorem minV_yes {m : List (List Int)} (h : IsC m) : minV m = minK m (2 ^ m.length - 1) := if_pos h
theorem minV_no {m : List (List Int)} (h : ¬ IsC m) : minV m = [] := if_neg h
theorem two_pow_le (n : Nat) (h : n ≤ 4) : 2 ^ n - 1 ≤ 15 := by
  rcases (show n = 0 ∨ n = 1 ∨ n = 2 ∨ n = 3 ∨ n = 4 by omega) with rfl | rfl | rfl | rfl | rfl <;> decide
theorem minV_len (m : List (List Int)) : (minV m).length ≤ 15 := by
  by_cases h : IsC m
  · rw [minV_yes h, minK_len]; exact two_pow_le _ h.2.2.2
  · rw [minV_no h]; simp
open Classical in
noncomputable def detV (m : List (List Int)) : Int := if IsC m then detF m.length m else 0
theorem detV_yes {m : List (List Int)} (h : IsC m) : detV m = detF m.length m := if_pos h
theorem detV_no {m : List (List Int)} (h : ¬ IsC m) : detV m = 0 := if_neg h

/-! ### The witness -/
/-- The first t below k whose minor is not positive, if there is one. -/
def witT (m : List (List Int)) (k : Nat) : Option Nat := (List.range k).find? fun t => decide (minP m t ≤ 0)
theorem witT_step_no {m : List (List Int)} {k : Nat} (h : witT m k = none) (hk : ¬ minP m k ≤ 0) : witT m (k + 1) = none := by
  unfold witT at h ⊢
  rw [List.range_succ, List.find?_append, h]
  simp [hk]
theorem witT_hit {m : List (List Int)} {k : Nat} (h : witT m k = none) (hk : minP m k ≤ 0) (N : Nat) (hN : k < N) : witT m N = some k := by
  have h1 : witT m (k + 1) = some k := by
    unfold witT at h ⊢
    rw [List.range_succ, List.find?_append, h]
    simp [hk]
  have e : List.range N = List.range (k + 1) ++ (List.range N).drop (k + 1) := by
    have h2 : (List.range N).take (k + 1) = List.range (k + 1) := by rw [List.take_range]; congr 1; omega
    rw [← h2, List.take_append_drop]
  unfold witT at h1 ⊢
  rw [e, List.find?_append, h1]; rfl
open Classical in
noncomputable def witV (m : List (List Int)) : List Int := if IsC m then (match witT m (2 ^ m.length - 1) with | none => [] | some t => intL (setK (t + 1) m.length)) else []
theorem witV_hit {m : List (List Int)} (h : IsC m) {t : Nat} (ht : witT m (2 ^ m.length - 1) = some t) : witV m = intL (setK (t + 1) m.length) := by unfold witV; rw [if_pos h, ht]
theorem witV_none {m : List (List Int)} (h : IsC m) (ht : witT m (2 ^ m.length - 1) = none) : witV m = [] := by unfold witV; rw [if_pos h, ht]
theorem witV_no {m : List (List Int)} (h : ¬ IsC m) : witV m = [] := if_neg h
theorem witV_len (m : List (List Int)) : (witV m).length ≤ 4 := by
  by_cases h : IsC m
  · cases ht : witT m (2 ^ m.length - 1) with
    | none => rw [witV_none h ht]; simp
    | some t =>
      rw [witV_hit h ht, intL_len]
      exact Nat.le_trans (setK_len _ _) h.2.2.2
  · rw [witV_no h]; simp
end Go.Proofs.Ytnlbmnielemgiaa
