/-
  Rows of bools of the call's own, an append whose row's place is told, and the library's sort on a row of ints.
-/
import Derived.Lib.SlKeysI
import Derived.Lib.AppendZeros
import Derived.Test.YtlbgblkoddlhnaaRa19
import Derived.Test.YtlbgblkoddlhnaaShelf
import Derived.Test.YtlbgblkoddlhnaaRa21
namespace Go.Proofs.Ytlbgblkoddlhnaa
open Go.RowKit

/-! ### Rows of bools -/
def boolsV (s : List Bool) : List Value := s.map Value.bool
theorem boolsV_len (s : List Bool) : (boolsV s).length = s.length := by simp [boolsV]
theorem boolsV_set (s : List Bool) (j : Nat) (x : Bool) : (boolsV s).set j (.bool x) = boolsV (s.set j x) := by simp [boolsV, List.map_set]
theorem Try.infoBool : (Try.prog.info? 4).map (fun i => (i.zero, i.size, i.bytes)) = some (some (.bool false), 1, 1) := by kernel_rfl
theorem madeBools (n : Nat) : (madeCells (Value.bool false).cells n).toList = boolsV (List.replicate n false) := by
  apply List.ext_getElem
  · simp [madeCells, boolsV]
  · intro i h1 h2
    simp [madeCells, boolsV, Value.cells, Nat.mod_one]
theorem makeBools (n : Nat) (hn : n ≤ 1048576) (w : World) : (Instr.makeSlice 90 (.int .i64 n) (.int .i64 n)).run Try.prog w = .ok (.slice (some ⟨w.heap.size, 0, none⟩) n n) (w.alloc (.cells (boolsV (List.replicate n false)).toArray 4)) := by
  obtain ⟨i0, hi, hz0, hz1, hz2⟩ := info_parts Try.infoBool
  have h := run_make (P := Try.prog) w 90 4 i0 (.bool false) Try.underlying90 hi hz0 .i64 .i64 (n : Int) (n : Int) (by omega) (Int.le_refl _) (by rw [hz2]; omega) (by omega)
  rw [h, hz1, Nat.mul_one, Int.toNat_natCast, ← madeBools]
/-- The bools of a row of the call's own in block g. -/
def SeenI (A : Nat) (w : World) (g n : Nat) (s : List Bool) : Prop := s.length = n ∧ w.ownsRow A 4 1 (.slice (some ⟨g, 0, none⟩) n n) n (boolsV s)
theorem seen_made (w : World) (n : Nat) (hn : n ≤ 1048576) : SeenI w.heap.size (w.alloc (.cells (boolsV (List.replicate n false)).toArray 4)) w.heap.size n (List.replicate n false) :=
  ⟨by simp, World.ownsRow_lit (base := w.heap.size) (e := 4) (size := 1) w (boolsV (List.replicate n false)).toArray n (Nat.le_refl _) (by unfold maxLen; omega) (by simp [boolsV])⟩
theorem SeenI.lt {A : Nat} {w : World} {g n : Nat} {s : List Bool} (h : SeenI A w g n s) : A ≤ g ∧ g < w.heap.size := h.2.lt g rfl
theorem SeenI.cell {A : Nat} {w : World} {g n : Nat} {s : List Bool} (h : SeenI A w g n s) {j : Nat} (hj : j < n) : w.cell? ⟨g, j, none⟩ = some (.bool (s.getD j false)) := by
  have hl := h.1
  rw [h.2.cellAt j (by omega)]
  simp [boolsV, List.getD, show j < s.length by omega]
theorem SeenI.frozen {A : Nat} {w : World} {g n : Nat} {s : List Bool} (h : SeenI A w g n s) (j : Nat) : w.frozen? ⟨g, j, none⟩ = false := h.2.frozenAt j
theorem SeenI.put {A : Nat} {w : World} {g n : Nat} {s : List Bool} (h : SeenI A w g n s) (j : Nat) (x : Bool) :
    SeenI A (w.setCell ⟨g, j, none⟩ (.bool x)) g n (s.set j x) ∧ w.grownBy (w.setCell ⟨g, j, none⟩ (.bool x)) (some g) := by
  obtain ⟨h1, h2⟩ := h.2.stored j (.bool x)
  rw [boolsV_set] at h1
  exact ⟨⟨by rw [List.length_set]; exact h.1, h1⟩, h2⟩
theorem SeenI.keep {A : Nat} {w w' : World} {g n : Nat} {s : List Bool} {S : Option Nat} (h : SeenI A w g n s) (hg : w.grownBy w' S) (hne : S ≠ some g) : SeenI A w' g n s :=
  ⟨h.1, h.2.kept hg (Or.inr fun e => hne (by rw [← e]; rfl))⟩
theorem SeenI.mono {A A' : Nat} {w : World} {g n : Nat} {s : List Bool} (h : SeenI A w g n s) (hA : A' ≤ A) : SeenI A' w g n s :=
  ⟨h.1, h.2.1, by
    rcases h.2.2 with ⟨h', _⟩ | ⟨g', cap, cur, h3, h4, h5⟩
    · cases h'
    · exact Or.inr ⟨g', cap, cur, h3, by omega, h5⟩⟩
theorem SeenI.below {A : Nat} {w w' : World} {g n : Nat} {s : List Bool} {C : Nat} (h : SeenI A w g n s) (hb : Below C w w') (hC : g < C) : SeenI A w' g n s := by
  refine ⟨h.1, h.2.1, ?_⟩
  rcases h.2.2 with ⟨h', _⟩ | ⟨g', cap, cur, h3, h4, h5, h6⟩
  · cases h'
  · have e : g' = g := by simp at h3; exact h3.1.symm
    exact Or.inr ⟨g', cap, cur, h3, h4, by rw [hb.block g' (by omega)]; exact h5, h6⟩

/-- Two rows whose elements are of two types lie in two blocks. -/
theorem own_differ {w : World} {A A' : Nat} {e e' : TypeId} {u v : Value} {n n' : Nat} {xs ys : List Value} (hee : e ≠ e') (h : w.ownsRow A e 1 u n xs) (h' : w.ownsRow A' e' 1 v n' ys) : v.ownBlock = none ∨ v.ownBlock ≠ u.ownBlock := by
  rcases h'.2 with ⟨rfl, _⟩ | ⟨g', cap', cur', rfl, _, hg', _⟩
  · exact Or.inl rfl
  · right
    rcases h.2 with ⟨rfl, _⟩ | ⟨g, cap, cur, rfl, _, hg, _⟩
    · simp [Value.ownBlock]
    · intro e
      have e2 : g' = g := by simpa [Value.ownBlock] using e
      subst e2
      rw [hg] at hg'
      have := Option.some.inj hg'
      simp at this
      exact hee this.2
theorem SeenI.row_ne {A A' B' : Nat} {w : World} {g n : Nat} {s : List Bool} {v : Value} {l : List Int} (h : SeenI A w g n s) (hr : RowI A' B' w v l) : v.ownBlock = none ∨ v.ownBlock ≠ some g :=
  own_differ (by decide) h.2 hr.1
theorem SeenI.ne_row {A A' B' : Nat} {w : World} {g n : Nat} {s : List Bool} {v : Value} {l : List Int} (h : SeenI A w g n s) (hr : RowI A' B' w v l) : v.ownBlock ≠ some g := by
  rcases h.row_ne hr with h1 | h1
  · rw [h1]; simp
  · exact h1
theorem MatI.keep {A B A' : Nat} {w w' : World} {v : Value} {m : List (List Int)} {g n : Nat} {s : List Bool} (h : MatI A B w v m) (hs : SeenI A' w g n s) (hg : w.grownBy w' (some g)) : MatI A B w' v m := by
  obtain ⟨hh, h1, h2, h3, h4⟩ := h
  refine ⟨hh, h1.kept hg ?_, h2, fun j hj => ?_, h4⟩
  · exact own_differ (by decide) hs.2 h1
  · obtain ⟨hv, h5, h6⟩ := h3 j hj
    exact ⟨hv, h5, h6.kept hg (hs.row_ne h6)⟩

/-- Growth and writes in blocks that are new. -/
theorem grown_new {w a b : World} {S S' : Option Nat} (h : w.grownBy a S) (k : a.grownBy b S') (hn : ∀ x, S' = some x → w.heap.size ≤ x) : w.grownBy b S :=
  ⟨k.os.trans h.os, k.tape.trans h.tape, k.output.trans h.output, Nat.le_trans h.size k.size, fun i hi hne => by
    rw [k.block i (Nat.lt_of_lt_of_le hi h.size) (fun e => by have := hn i e.symm; omega)]
    exact h.block i hi hne⟩
theorem grown_below {w a b : World} {S : Option Nat} (h : w.grownBy a S) (k : Below a.heap.size a b) : w.grownBy b S :=
  ⟨k.os.trans h.os, k.tape.trans h.tape, k.output.trans h.output, Nat.le_trans h.size k.size, fun i hi hne => by
    rw [k.block i (Nat.lt_of_lt_of_le hi h.size)]
    exact h.block i hi hne⟩

/-! ### append(row, x), told where the new row lies -/
set_option maxRecDepth 100000 in
theorem append_intG {ops : Array Oper} {rest : List Oper} {o : Oper} {a : Act} {Q : Exit → Act → World → Prop} {s x : Operand} {A q : Nat} {v : Value} {l : List Int} {wr : World}
    (hM : RowI A wr.heap.size wr v l) (hA : A ≤ wr.heap.size) (hq : q = wr.heap.size) (n : Int) (h0 : l ≠ []) (hgd : o.guard = none)
    (ho : o.op = .call { callee := .builtin .append, args := #[s, x], argTypes := #[23, 23] }) (hs : a.eval s = v)
    (hx : a.eval x = .slice (some ⟨q, 0, none⟩) 1 1) (hlen : l.length ≤ 4194304)
    (h : ∀ v' w', RowI A w'.heap.size w' v' (l ++ [n]) → wr.grownBy w' v.ownBlock → (∀ g, v'.ownBlock = some g → v.ownBlock = some g ∨ wr.heap.size ≤ g) → wpList Try.prog ops Q rest (a.put o.dst v') w') :
    wpList Try.prog ops Q (o :: rest) a (wr.alloc (.cells #[.int .i64 n] 3)) := by
  subst hq
  obtain ⟨h1, h2⟩ := hM
  obtain ⟨i0, hi, hz0, hz1, hz2⟩ := info_parts Try.infoInt
  have h1a := h1.alloc (.cells #[.int .i64 n] 3)
  have hnew : ∀ j u, [Value.int .i64 n][j]? = some u → (wr.alloc (.cells #[.int .i64 n] 3)).cell? ((⟨wr.heap.size, 0, none⟩ : Addr).add j) = some u := by
    intro j u hu
    match j, hu with
    | 0, hu =>
      simp at hu
      subst hu
      rw [Addr.add_lit, cell_of_row _ wr.heap.size 0 _ _ _ (MapKept.heap_alloc wr _).1]
      rfl
    | j + 1, hu => simp at hu
  have hone : ∀ u ∈ [Value.int .i64 n], u.oneCell' = true := by
    intro u hu
    simp at hu
    subst hu
    rfl
  have hlv : (intsV l).length = l.length := intsV_len l
  obtain ⟨v', w', hr, h3, h4, _⟩ := run_append_own (P := Try.prog) (wr.alloc (.cells #[.int .i64 n] 3)) A 23 o.type 3 i0 (.int .i64 0) 1 8 Try.underlying23 hi hz0 hz1 hz2 rfl (by omega) v l.length (intsV l) h1a ⟨wr.heap.size, 0, none⟩ 1 1 [.int .i64 n] rfl hnew hone (by unfold maxLen; omega) (by omega) (by simp; omega)
  have hloc : ∀ g, v'.ownBlock = some g → v.ownBlock = some g ∨ wr.heap.size ≤ g := by
    rcases h1.2 with ⟨rfl, he⟩ | ⟨g, cap, cur, rfl, hAg, hg, hn, hc, hsz, ht⟩
    · exact absurd (List.eq_nil_of_length_eq_zero he) h0
    · have hga : (wr.alloc (.cells #[.int .i64 n] 3)).heap[g]? = some (.cells cur 3 (0, 0)) := by
        rw [(MapKept.heap_alloc wr _).2 g (Array.getElem?_eq_some_iff.1 hg).1]; exact hg
      by_cases hroom : l.length + 1 ≤ cap
      · have hr2 := run_append_room (P := Try.prog) (wr.alloc (.cells #[.int .i64 n] 3)) 23 o.type 3 i0 Try.underlying23 hi g l.length cap cur hga ⟨wr.heap.size, 0, none⟩ 1 1 [.int .i64 n] (by rw [hz1]; rfl) hnew hone hroom (by rw [hz1]; simp; omega)
        rw [hr] at hr2
        injection hr2 with e1 e2
        subst e1
        intro g' hg'
        exact Or.inl hg'
      · have hr2 := run_append_grow (P := Try.prog) (wr.alloc (.cells #[.int .i64 n] 3)) 23 o.type 3 i0 (.int .i64 0) Try.underlying23 hi hz0 ⟨g, 0, none⟩ l.length cap (intsV l) (by rw [hz1, hlv]; omega) (h1a.cells (g := g) rfl) ⟨wr.heap.size, 0, none⟩ 1 1 [.int .i64 n] (by rw [hz1]; rfl) hnew (by omega) (by omega) (growslice_fits (by omega) (by rw [hz2]; omega))
        rw [hr] at hr2
        injection hr2 with e1 e2
        subst e1
        intro g' hg'
        right
        have : (wr.alloc (.cells #[.int .i64 n] 3)).heap.size = g' := by simpa [Value.ownBlock] using hg'
        simp at this
        omega
  refine Lib.wpList_append_run _ hgd s x 23 23 ho _ _ hs hx v' w' hr ?_
  refine h v' w' ⟨?_, fun g hgg => (h3.lt g hgg).2⟩ ⟨h4.os, h4.tape, h4.output, by have := h4.size; simp at this; omega, fun k hk hn => ?_⟩ hloc
  · have e : intsV l ++ [.int .i64 n] = intsV (l ++ [n]) := by simp [intsV]
    rw [e] at h3
    rw [List.length_append]
    exact h3
  · rw [h4.block k (by simp; omega) hn]
    exact (MapKept.heap_alloc wr _).2 k hk

/-! ### The library's sort -/
theorem sort_row (A : Nat) (w : World) (v : Value) (l t : List Int) (h : RowI A w.heap.size w v l) (h0 : l ≠ []) (hl : l.length ≤ 1048576) (hp : l.Perm t) (ht : t.Pairwise fun x y => x ≤ y) :
    Calls Try.prog 121 #[v] w fun e w' => e = .returned (.tuple #[]) ∧ RowI A w'.heap.size w' v t ∧ w.grownBy w' v.ownBlock := by
  have hle : l.mergeSort (fun x y => decide (x ≤ y)) = t := by
    rw [mergeSort_of_perm_i hp]
    exact List.mergeSort_of_pairwise (ht.imp fun h => decide_eq_true h)
  have hlt : t.length = l.length := hp.length_eq.symm
  rcases h.1.2 with ⟨rfl, he⟩ | ⟨g, cap, cur, rfl, hAg, hg, hn, hc, hsz, htk⟩
  · exact absurd (List.eq_nil_of_length_eq_zero he) h0
  · rw [Nat.mul_one] at htk
    refine (Try.slices_Sort_int g 0 cap l w (holds_of_block_i hg htk) (Array.getElem?_eq_some_iff.1 hg).1 (by omega)).mono ?_
    rintro e w' ⟨rfl, n, os, rfl⟩
    rw [hle]
    have hg2 : w.grownBy _ (some g) := grownBy_sorted_i (w := w) (g := g) (n := n) (os := os) t.toArray
    refine ⟨rfl, ⟨?_, fun g' hg' => ?_⟩, hg2⟩
    · have h3 := ownsRow_sorted_i (n := n) (os := os) (ts := t) (ss := l) (cap := cap) hlt hAg hg hn hc (by omega)
      rw [hlt]
      exact h3
    · have := h.2 g' hg'
      exact Nat.lt_of_lt_of_le this hg2.size
end Go.Proofs.Ytlbgblkoddlhnaa
