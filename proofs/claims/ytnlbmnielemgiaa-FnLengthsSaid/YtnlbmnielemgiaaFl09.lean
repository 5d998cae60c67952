/-
  Appends onto rows and matrices of the call's own: many ints at once, zeros, a row; in the order of the text and inside a region without order.
  Rows of ints appended to a row of the call's own, empty or not.
  A row of a square matrix that came in: its header and its cells.
  Weights: what the program's reflection in place returns.
  A range over a function whose iterator keeps state in cells of its own, and hands over a list that is known beforehand (over any program): what the iterator owes, and the statement's law.
  Boxed variables and loops' records: what stays as it was (over any program but for the rows' type).
-/
import Derived.Deep.RegionLaw
import Derived.Test.YtnlbmnielemgiaaFl06
import Derived.Test.YtnlbmnielemgiaaZeros
import Derived.Laws.AppendOwn
import Derived.Test.YtnlbmnielemgiaaFl03
import Derived.Test.YtnlbmnielemgiaaFl04
import Derived.Test.YtnlbmnielemgiaaFl07
import Derived.RangeFuncNested
import Derived.RangeFuncBound
import Derived.RangeFuncCalls
import Derived.RangeFuncLeaves
import Derived.Shelf.Abstract
import Derived.WalkKit
import Derived.OwnWalkIn
import Derived.TacticsInMore
import Derived.LoopNIn
import Derived.LoopIn
namespace Go.Proofs.Ytnlbmnielemgiaa
open Go.RowKit

/-- What an append onto a row leaves. -/
abbrev AfterRow (A : Nat) (wr : World) (l : List Int) (h : Value → World → Prop) : Prop :=
  ∀ v' w', RowI A w'.heap.size w' v' l → (∀ W C, C ≤ A → Below C W wr → Below C W w') → wr.heap.size ≤ w'.heap.size → h v' w'
abbrev AfterMat (A : Nat) (wr : World) (m : List (List Int)) (h : Value → World → Prop) : Prop :=
  ∀ v' w', MatI A w'.heap.size w' v' m → (∀ W C, C ≤ A → Below C W wr → Below C W w') → wr.heap.size ≤ w'.heap.size → h v' w'

theorem wp_ints {o : Oper} {a : Act} {K : Act → World → Prop} {Q : Exit → Act → World → Prop} {s x : Operand} {A B : Nat} {v xv : Value} {l l2 : List Int} {wr : World}
    (hM : RowI A wr.heap.size wr v l) (hA : A ≤ wr.heap.size) (hr : RowB B wr xv l2) (h0 : l2 ≠ [])
    (ho : o.op = .call { callee := .builtin .append, args := #[s, x], argTypes := #[25, 25] }) (hs : a.eval s = v) (hx : a.eval x = xv) (hlen : l.length + l2.length ≤ 4194304)
    (h : AfterRow A wr (l ++ l2) fun v' w' => K (a.put o.dst v') w') : o.wp Try.prog a wr K Q := by
  obtain ⟨h1, h2⟩ := hM
  obtain ⟨i0, hi, hz0, hz1, hz2⟩ := info_parts Try.infoInt
  rcases hr with ⟨h', _⟩ | ⟨b, off, cap, rfl, hb, hc⟩
  · exact absurd h' h0
  have hl2 : (intsV l2).length = l2.length * 1 := by rw [intsV_len]; omega
  refine wp_append_own wr s x 25 ho A 3 i0 (.int .i64 0) 1 8 Try.underlying25 hi hz0 hz1 hz2 rfl (by omega) v l.length (intsV l) hs h1 ⟨b, off, none⟩ l2.length cap (intsV l2) hx hl2 (fun j u hu => ?_) (fun u hu => ?_) (by unfold maxLen; omega) (by omega) hA ?_
  · have hj : j < l2.length := by have := (List.getElem?_eq_some_iff.1 hu).1; rwa [intsV_len] at this
    rw [Addr.add_lit, hc j hj, ← hu]
    simp [intsV, hj]
  · obtain ⟨n, _, rfl⟩ := List.mem_map.1 hu
    rfl
  · intro v' w' ho' hg _
    refine h v' w' ⟨?_, fun g hgg => (ho'.lt g hgg).2⟩ (fun W C hC hb => ?_) hg.size
    · have e : intsV l ++ intsV l2 = intsV (l ++ l2) := by simp [intsV]
      rw [e] at ho'
      rw [List.length_append]
      exact ho'
    · exact hb.grown hg (by omega) (fun k hk => by have := (h1.lt k hk).1; omega)

/-- 'append(row, xs...)', xs not empty. -/
theorem append_ints {ops : Array Oper} {rest : List Oper} {o : Oper} {a : Act} {Q : Exit → Act → World → Prop} {s x : Operand} {A B : Nat} {v xv : Value} {l l2 : List Int} {wr : World}
    (hM : RowI A wr.heap.size wr v l) (hA : A ≤ wr.heap.size) (hr : RowB B wr xv l2) (h0 : l2 ≠ []) (hlen : l.length + l2.length ≤ 4194304) (hgd : o.guard = none)
    (ho : o.op = .call { callee := .builtin .append, args := #[s, x], argTypes := #[25, 25] }) (hs : a.eval s = v) (hx : a.eval x = xv)
    (h : AfterRow A wr (l ++ l2) fun v' w' => wpList Try.prog ops Q rest (a.put o.dst v') w') : wpList Try.prog ops Q (o :: rest) a wr :=
  wpList_plain hgd fun _ hK => wp_ints hM hA hr h0 ho hs hx hlen fun v' w' h2 h3 h4 => hK _ _ (h v' w' h2 h3 h4)
theorem step_ints {ops : Array Oper} {o : Oper} {a : Act} {K : Act → World → Prop} {Q : Exit → Act → World → Prop} {E : Prop} {s x : Operand} {A B : Nat} {v xv : Value} {l l2 : List Int} {wr : World}
    (hM : RowI A wr.heap.size wr v l) (hA : A ≤ wr.heap.size) (hr : RowB B wr xv l2) (h0 : l2 ≠ []) (hlen : l.length + l2.length ≤ 4194304) (hgd : o.guard = none)
    (ho : o.op = .call { callee := .builtin .append, args := #[s, x], argTypes := #[25, 25] }) (hs : a.eval s = v) (hx : a.eval x = xv)
    (h : AfterRow A wr (l ++ l2) fun v' w' => K (a.put o.dst v') w') : if Region.wanted o (yielded ops a.tmps) = true then Oper.wp Try.prog o a wr K Q else E := by
  have hw : Region.wanted o (yielded ops a.tmps) = true := by simp [Region.wanted, hgd]
  rw [if_pos hw]
  exact wp_ints hM hA hr h0 ho hs hx hlen h

/-- 'append(row, make([]int, n)...)', n at least 1, row not empty. -/
theorem append_zeros {ops : Array Oper} {rest : List Oper} {o : Oper} {a : Act} {Q : Exit → Act → World → Prop} {s x : Operand} {A : Nat} {v : Value} {l : List Int} {wr : World}
    (hM : RowI A wr.heap.size wr v l) (hA : A ≤ wr.heap.size) (h0 : l ≠ []) (n : Nat) (hn : 0 < n) (hlen : l.length + n ≤ 4194304) (hgd : o.guard = none)
    (ho : o.op = .call { callee := .builtin .append, args := #[s, x], argTypes := #[25, 3] }) (hs : a.eval s = v) (hx : a.eval x = .int .i64 (n : Int))
    (h : AfterRow A wr (l ++ List.replicate n 0) fun v' w' => wpList Try.prog ops Q rest (a.put o.dst v') w') : wpList Try.prog ops Q (o :: rest) a wr := by
  obtain ⟨h1, h2⟩ := hM
  obtain ⟨i0, hi, hz0, hz1, hz2⟩ := info_parts Try.infoInt
  obtain ⟨ra, rcap, rfl⟩ : ∃ g cap, v = .slice (some ⟨g, 0, none⟩) l.length cap := by
    rcases h1.2 with ⟨_, hl⟩ | ⟨g, cap, cur, hv, _⟩
    · exact absurd (List.eq_nil_of_length_eq_zero hl) h0
    · exact ⟨g, cap, hv⟩
  obtain ⟨v', w', hrun, ho', hg⟩ := run_append_zeros (P := Try.prog) wr A 25 3 o.type 3 i0 (.int .i64 0) 8 .i64 .i64 Try.underlying25 Try.underlying3 hi hz0 hz1 hz2 rfl rfl ra rcap l.length (intsV l) h1 n hn (by unfold maxLen; omega) (by omega) hA
  refine Lib.wpList_append_run wr hgd s x 25 3 ho _ _ hs hx v' w' hrun ?_
  refine h v' w' ⟨?_, fun g hgg => (ho'.lt g hgg).2⟩ (fun W C hC hb => ?_) hg.size
  · have e : intsV l ++ List.replicate n (.int .i64 0) = intsV (l ++ List.replicate n 0) := by simp [intsV]
    rw [e] at ho'
    rw [List.length_append, List.length_replicate]
    exact ho'
  · have h9 : A ≤ ra := (h1.lt ra rfl).1
    exact hb.grown hg (by omega) (fun k hk => by injection hk with hk; omega)

theorem wp_row {o : Oper} {a : Act} {K : Act → World → Prop} {Q : Exit → Act → World → Prop} {s x : Operand} {A B C gl : Nat} {v rv : Value} {m : List (List Int)} {l : List Int} {w : World}
    (hM : MatI A B w v m) (hr : RowI B C w rv l) (hAB : A ≤ B) (hBw : B ≤ w.heap.size) (hCw : C ≤ w.heap.size) (hnew : w.heap[gl]? = some (.cells #[rv] 25 (0, 0)))
    (ho : o.op = .call { callee := .builtin .append, args := #[s, x], argTypes := #[24, 24] }) (hs : a.eval s = v)
    (hx : a.eval x = .slice (some ⟨gl, 0, none⟩) 1 1) (hlen : m.length ≤ 1048576)
    (h : AfterMat A w (m ++ [l]) fun v' w' => K (a.put o.dst v') w') : o.wp Try.prog a w K Q := by
  obtain ⟨hh, h1, h2, h3, h4⟩ := hM
  obtain ⟨i0, hi, hz0, hz1, hz2⟩ := info_parts Try.infoRow
  have hll : hh.length = m.length := by have := h1.1; omega
  have hone : rv.oneCell' = true := by
    obtain ⟨ra, rcap, rfl⟩ := hr.slice
    rfl
  refine wp_append_own w s x 24 ho A 25 i0 (.slice none 0 0) 1 24 Try.underlying24 hi hz0 hz1 hz2 rfl (by omega) v m.length hh hs h1 ⟨gl, 0, none⟩ 1 1 [rv] hx rfl (fun j u hu => ?_) (fun u hu => ?_) (by unfold maxLen; omega) (by omega) (by omega) ?_
  · match j, hu with
    | 0, hu =>
      simp at hu
      subst hu
      rw [Addr.add_lit, cell_of_row w gl 0 _ _ _ hnew]
      rfl
    | j + 1, hu => simp at hu
  · simp at hu
    subst hu
    exact hone
  · intro v' w' ho' hg _
    have hlh : (hh ++ [rv]).length = m.length + 1 := by simp [hll]
    have hM' := mat_snoc h1 h2 h3 h4 (hr.mono (Nat.le_refl _) hCw) hAB hBw (by rw [hlh]; exact ho') hg
    exact h v' w' hM' (fun W C hC hb => hb.grown hg (by omega) (fun k hk => by have := (h1.lt k hk).1; omega)) hg.size
theorem append_row2 {ops : Array Oper} {rest : List Oper} {o : Oper} {a : Act} {Q : Exit → Act → World → Prop} {s x : Operand} {A B C gl : Nat} {v rv : Value} {m : List (List Int)} {l : List Int} {w : World}
    (hM : MatI A B w v m) (hr : RowI B C w rv l) (hAB : A ≤ B) (hBw : B ≤ w.heap.size) (hCw : C ≤ w.heap.size) (hnew : w.heap[gl]? = some (.cells #[rv] 25 (0, 0))) (hlen : m.length ≤ 1048576) (hgd : o.guard = none)
    (ho : o.op = .call { callee := .builtin .append, args := #[s, x], argTypes := #[24, 24] }) (hs : a.eval s = v) (hx : a.eval x = .slice (some ⟨gl, 0, none⟩) 1 1)
    (h : AfterMat A w (m ++ [l]) fun v' w' => wpList Try.prog ops Q rest (a.put o.dst v') w') : wpList Try.prog ops Q (o :: rest) a w :=
  wpList_plain hgd fun _ hK => wp_row hM hr hAB hBw hCw hnew ho hs hx hlen fun v' w' h2 h3 h4 => hK _ _ (h v' w' h2 h3 h4)
theorem step_row {ops : Array Oper} {o : Oper} {a : Act} {K : Act → World → Prop} {Q : Exit → Act → World → Prop} {E : Prop} {s x : Operand} {A B C gl : Nat} {v rv : Value} {m : List (List Int)} {l : List Int} {w : World}
    (hM : MatI A B w v m) (hr : RowI B C w rv l) (hAB : A ≤ B) (hBw : B ≤ w.heap.size) (hCw : C ≤ w.heap.size) (hnew : w.heap[gl]? = some (.cells #[rv] 25 (0, 0))) (hlen : m.length ≤ 1048576) (hgd : o.guard = none)
    (ho : o.op = .call { callee := .builtin .append, args := #[s, x], argTypes := #[24, 24] }) (hs : a.eval s = v) (hx : a.eval x = .slice (some ⟨gl, 0, none⟩) 1 1)
    (h : AfterMat A w (m ++ [l]) fun v' w' => K (a.put o.dst v') w') : if Region.wanted o (yielded ops a.tmps) = true then Oper.wp Try.prog o a w K Q else E := by
  have hw : Region.wanted o (yielded ops a.tmps) = true := by simp [Region.wanted, hgd]
  rw [if_pos hw]
  exact wp_row hM hr hAB hBw hCw hnew ho hs hx hlen h

theorem RowI.alloc {A B : Nat} {w : World} {v : Value} {l : List Int} (h : RowI A B w v l) (o : Obj) : RowI A B (w.alloc o) v l := ⟨h.1.alloc o, h.2⟩
theorem row_made (w : World) (n : Nat) (hn : n ≤ 1048576) : RowI w.heap.size (w.alloc (.cells (intsV (List.replicate n 0)).toArray 3)).drew.heap.size (w.alloc (.cells (intsV (List.replicate n 0)).toArray 3)).drew (.slice (some ⟨w.heap.size, 0, none⟩) n n) (List.replicate n 0) := by
  refine ⟨?_, fun g hg => ?_⟩
  · have h := World.ownsRow_lit (base := w.heap.size) (e := 3) (size := 1) w (intsV (List.replicate n 0)).toArray n (Nat.le_refl _) (by unfold maxLen; omega) (by simp [intsV])
    have e : (List.replicate n (0 : Int)).length = n := by simp
    rw [e]
    exact h.drew
  · have : w.heap.size = g := by simpa [Value.ownBlock] using hg
    show g < (w.alloc _).heap.size
    simp; omega
theorem mat_behind {A : Nat} {w w0 w1 : World} {v : Value} {m : List (List Int)} (hM : MatI A w.heap.size w v m) (h0 : Below w.heap.size w w0) (hb : ∀ (W : World) (C : Nat), C ≤ w.heap.size → Below C W w0 → Below C W w1) (o : Obj) :
    MatI A w.heap.size (w1.alloc o) v m := by
  have h1 := hb w w.heap.size (Nat.le_refl _) h0
  exact hM.same (SameIn.of_below (h1.alloc h1.size o) (Nat.le_refl _))
end Go.Proofs.Ytnlbmnielemgiaa
namespace Go.Proofs.Ytnlbmnielemgiaa
open Go.RowKit

/-- Nothing is appended to a row of the call's own, from a slice without address. -/
theorem append_nothing {P : Program} {w : World} (base : Nat) (t ty e : TypeId) (i : TypeInfo) (size : Nat) (ht : P.underlying t = some (.slice e)) (hi : P.info? e = some i)
    (v : Value) (n c : Nat) (xs : List Value) (hown : w.ownsRow base e size v n xs) : (Builtin.append_ #[t, t] ty #[v, .slice none 0 c]).run P w = .ok v w := by
  obtain ⟨_, h | h⟩ := hown
  · obtain ⟨rfl, _⟩ := h
    simp [Builtin.append_, run_underlying ht, sizeOf, typeInfo, hi, Builtin.lenOf, Builtin.firstCells]
  · obtain ⟨g, cap, cur, rfl, _, _, hcap, _⟩ := h
    have hroom : ¬ cap < n := by omega
    simp [Builtin.append_, run_underlying ht, sizeOf, typeInfo, hi, Builtin.lenOf, Builtin.firstCells, hroom, storeCells]
theorem wp_intsA {o : Oper} {a : Act} {K : Act → World → Prop} {Q : Exit → Act → World → Prop} {s x : Operand} {A B : Nat} {v xv : Value} {l l2 : List Int} {wr : World}
    (hM : RowI A wr.heap.size wr v l) (hA : A ≤ wr.heap.size) (hr : RowB B wr xv l2)
    (ho : o.op = .call { callee := .builtin .append, args := #[s, x], argTypes := #[25, 25] }) (hs : a.eval s = v) (hx : a.eval x = xv) (hlen : l.length + l2.length ≤ 4194304)
    (h : AfterRow A wr (l ++ l2) fun v' w' => K (a.put o.dst v') w') : o.wp Try.prog a wr K Q := by
  by_cases h0 : l2 = []
  · subst h0
    obtain ⟨h1, h2⟩ := hM
    obtain ⟨i0, hi, hz0, hz1, hz2⟩ := info_parts Try.infoInt
    have hsl : ∃ p c, xv = .slice p 0 c := by
      rcases hr with ⟨_, p, c, h⟩ | ⟨b, off, c, h, _⟩
      · exact ⟨p, c, h⟩
      · exact ⟨_, c, h⟩
    obtain ⟨p, c, rfl⟩ := hsl
    cases p with
    | none =>
      have hrun := append_nothing (P := Try.prog) A 25 o.type 3 i0 1 Try.underlying25 hi v l.length c (intsV l) h1
      unfold Oper.wp
      simp [execOp, ho, resolve, invoke, builtin, hs, hx, hrun, Result.andThen]
      exact h v wr (by rw [List.append_nil]; exact ⟨h1, h2⟩) (fun W C _ hb => hb) (Nat.le_refl _)
    | some p =>
      refine wp_append_own wr s x 25 ho A 3 i0 (.int .i64 0) 1 8 Try.underlying25 hi hz0 hz1 hz2 rfl (by omega) v l.length (intsV l) hs h1 p 0 c [] hx rfl (fun j u hu => by simp at hu) (fun u hu => by simp at hu) (by simp at hlen; unfold maxLen; omega) (by simp at hlen; omega) hA ?_
      intro v' w' ho' hg _
      refine h v' w' ⟨?_, fun g hgg => (ho'.lt g hgg).2⟩ (fun W C hC hb => ?_) hg.size
      · simpa using ho'
      · exact hb.grown hg (by omega) (fun k hk => by have := (h1.lt k hk).1; omega)
  · exact wp_ints hM hA hr h0 ho hs hx hlen h
/-- 'append(row, xs...)', xs empty or not. -/
theorem append_intsA {ops : Array Oper} {rest : List Oper} {o : Oper} {a : Act} {Q : Exit → Act → World → Prop} {s x : Operand} {A B : Nat} {v xv : Value} {l l2 : List Int} {wr : World}
    (hM : RowI A wr.heap.size wr v l) (hA : A ≤ wr.heap.size) (hr : RowB B wr xv l2) (hlen : l.length + l2.length ≤ 4194304) (hgd : o.guard = none)
    (ho : o.op = .call { callee := .builtin .append, args := #[s, x], argTypes := #[25, 25] }) (hs : a.eval s = v) (hx : a.eval x = xv)
    (h : AfterRow A wr (l ++ l2) fun v' w' => wpList Try.prog ops Q rest (a.put o.dst v') w') : wpList Try.prog ops Q (o :: rest) a wr :=
  wpList_plain hgd fun _ hK => wp_intsA hM hA hr ho hs hx hlen fun v' w' h2 h3 h4 => hK _ _ (h v' w' h2 h3 h4)
end Go.Proofs.Ytnlbmnielemgiaa
namespace Go.Proofs.Ytnlbmnielemgiaa
open Go.RowKit

/-- A row of a square matrix: its header and its cells. -/
theorem MatB.line {B : Nat} {w : World} {a : Option Addr} {n cap : Nat} {m : List (List Int)} (h : MatB B w (.slice a n cap) m) (hr : Rows0 m n n) {i : Nat} (hi : i < n) :
    ∃ b off rb roff rcap, a = some ⟨b, off, none⟩ ∧ b < B ∧ rb < B ∧ w.cell? ⟨b, off + i, none⟩ = some (.slice (some ⟨rb, roff, none⟩) n rcap) ∧ ∀ j, j < n → w.cell? ⟨rb, roff + j, none⟩ = some (.int .i64 (Go.Proofs.Ytnlbmnielemgiaa.entry m i j)) := by
  obtain ⟨b, off, hil, rfl, hb, ra, rcap, hc, hrow⟩ := h.get hi
  have hg := getD_row m i hil
  have hlen : m[i].length = n := by rw [← hg]; exact hr i hi
  rw [hlen] at hc hrow
  obtain ⟨rb, roff, hjl, rfl, hrb, _⟩ := hrow.get (j := 0) (by omega)
  refine ⟨b, off, rb, roff, rcap, rfl, hb, hrb, hc, fun j hj => ?_⟩
  obtain ⟨rb', roff', hjl', he, _, hcell⟩ := hrow.get hj
  injection he with he
  injection he with he1 he2
  subst he1
  subst he2
  rw [hcell]
  unfold Go.Proofs.Ytnlbmnielemgiaa.entry
  rw [hg]
  simp [List.getD, hjl']

end Go.Proofs.Ytnlbmnielemgiaa
namespace Go.Proofs.Ytnlbmnielemgiaa
open Go.RowKit

theorem RowI.at' {A B : Nat} {w : World} {v : Value} {l : List Int} (h : RowI A B w v l) (h0 : 0 < l.length) : ∃ g cap, v = .slice (some ⟨g, 0, none⟩) l.length cap ∧ A ≤ g ∧ g < B := by
  rcases h.1.2 with ⟨_, h'⟩ | ⟨g, cap, _, h', hA, _⟩
  · omega
  · exact ⟨g, cap, h', hA, h.2 g (by rw [h']; rfl)⟩

set_option maxHeartbeats 4000000 in
set_option maxRecDepth 100000 in
theorem rip_any (A B : Nat) (v v' : Value) (m : List (List Int)) (l : List Int) (i : Nat) (w : World) (h : MatB B w v m) (h' : RowI A w.heap.size w v' l) (hBA : B ≤ A) (hI : Rows0 m m.length m.length) (hll : l.length = m.length) (hi : i < m.length) (hn : m.length ≤ 1048576) :
    Calls Try.prog 108 #[v, .int .i64 i, v'] w fun e w' => e = .returned (.tuple #[]) ∧ RowI A w'.heap.size w' v' (reflL m i l) ∧ w.grownBy w' v'.ownBlock ∧ w'.heap.size = w.heap.size := by
  obtain ⟨a, cap, rfl⟩ := h.slice
  obtain ⟨g, cap', rfl, hAg, hg⟩ := h'.at' (by omega)
  have HR := Lib.hid h
  have HRW := Lib.hid hI
  have hx0 : w.cell? ⟨g, i, none⟩ = some (.int .i64 (l.getD i 0)) := by
    have := h'.1.cellAt i (by omega)
    rw [this]; simp [intsV, List.getD, show i < l.length by omega]
  have h1 : w.ownsRow A 3 1 (.slice (some ⟨g, 0, none⟩) l.length cap') l.length (intsV (rflS m i l 0)) := by rw [rflS_zero]; exact h'.1
  have H1 := Lib.hid h1
  have HSTP := Lib.hid (fun k (hk : k < m.length) => rflS_step m i l k (by omega))
  have HLN := Lib.hid (fun k (hk : k ≤ m.length) => rflS_len m i l k (by omega))
  have HGT := Lib.hid (fun k (hk : k < m.length) => rflS_get m i l k (by omega))
  have HEND := Lib.hid (show rflS m i l m.length = reflL m i l from by rw [← hll]; exact rflS_end m i l)
  have HRL := Lib.hid (show (reflL m i l).length = m.length from by rw [reflL_len]; exact hll)
  have HEQ := Lib.hid (fun k => show reflE m i l k = subW (l.getD k 0) (mulW (l.getD i 0) (entry m k i)) from rfl)
  clear h h' hI h1
  rw [hll] at H1 ⊢
  rw [hll] at HLN
  generalize l.getD i 0 = z at *
  generalize m.length = n at *
  clear hll
  go_enter Try.func108, Try.ntmps108
  go_wp2_with fail
  clear hx0
  go_loopw [14] (fun i' wr => ∃ (k : Nat) (wq : World), wq = wr ∧ k ≤ n ∧ i' = .int .i64 k ∧ wq.ownsRow A 3 1 (.slice (some ⟨g, 0, none⟩) n cap') n (intsV (rflS m i l k)) ∧ w.grownBy wq (some g) ∧ wq.heap.size = w.heap.size) (fun i' _ => n - (intOf i').toNat)
  case atStart => exact ⟨0, _, rfl, Nat.zero_le _, rfl, H1.out, World.grownBy.refl _ _, rfl⟩
  case round =>
    obtain ⟨k, wq, rfl, hk, rfl, hown, hgr, hsz⟩ := hrel
    have HO := Lib.hid hown; have HG := Lib.hid hgr; have HSZ := Lib.hid hsz
    by_cases hlt : k < n
    · have hcell : wq.cell? ⟨g, k, none⟩ = some (.int .i64 (l.getD k 0)) := by
        rw [hown.cellAt k (by omega)]
        have := HGT.out k hlt
        simp [intsV, this]
      have hfz : wq.frozen? ⟨g, k, none⟩ = false := hown.frozenAt k
      have hbl : ∀ b, b < A → wq.heap[b]? = w.heap[b]? := fun b hb => hgr.block b (by omega) (fun e => by have := Option.some.inj e; omega)
      have hbw : Below A w wq := (Below.refl A w).grown hgr (by omega) (fun j hj => by have := Option.some.inj hj; omega)
      obtain ⟨b, off, rb, roff, rcap, rfl, hc1, hx⟩ := (HR.out.below hbw hBA).entry HRW.out hlt hi
      obtain ⟨hst, hgs⟩ := hown.stored k (.int .i64 (reflE m i l k))
      rw [intsV_set, HSTP.out k hlt] at hst
      have HST := Lib.hid hst
      have HGS := Lib.hid (grown_trans hgr hgs)
      have HE := Lib.hid (HEQ.out k)
      clear hst hgs hown hgr hsz hbl hbw
      generalize reflE m i l k = E at *
      generalize l.getD k 0 = x at *
      generalize entry m k i = y at *
      obtain ⟨pr, hpr⟩ : ∃ pr, pr = mulW z y := ⟨_, rfl⟩
      have h1 : IntKind.i64.wrap (z * y) = pr := by rw [hpr, wrapk]; rfl
      have h2 : wrap64 (z * y) = pr := by rw [hpr]; rfl
      have h3 : IntKind.i64.wrap (x - pr) = E := by rw [HE.out, hpr, wrapk]; rfl
      have h4 : wrap64 (x - pr) = E := by rw [HE.out, hpr]; rfl
      clear hpr HE
      go_wp2_with fail
      go_region
      go_wp2_with fail
      exact ⟨⟨k + 1, _, rfl, by omega, by go_num, HST.out.drew, grown_trans HGS.out ⟨rfl, rfl, rfl, Nat.le_refl _, fun _ _ _ => rfl⟩, by show (World.setCell _ _ _).heap.size = _; rw [World.size_setCell]; exact HSZ.out⟩, by simp [intOf]; omega⟩
    · obtain rfl : k = n := by omega
      have hd : decide (k < k) = false := by simp
      go_wp2_with fail
      go_end0
      have hfin : RowI A wq.heap.size wq (.slice (some ⟨g, 0, none⟩) k cap') (reflL m i l) := by
        refine ⟨?_, fun g' hg' => ?_⟩
        · rw [HRL.out, ← HEND.out]; exact HO.out
        · have : g = g' := by simpa [Value.ownBlock] using hg'
          have := HSZ.out; omega
      exact ⟨rfl, hfin, HG.out, HSZ.out⟩

end Go.Proofs.Ytnlbmnielemgiaa
namespace Go.Proofs.Ytnlbmnielemgiaa
open Go.RowKit Go.Shelf

/-- What the iterator owes: R k: its own cells before element k is handed over; Ab: a step of its own. -/
def GivesB (F : Fence) (n : Nat) (P : Program) (g : Nat) (lb : Array Value) (xs : List (Array Value)) (R : Nat → World → Prop) (Ab : World → World → Prop) : Prop :=
  ∀ (l : Nat) (J : Nat → World → Prop) (Jx : World → Prop) (W : World), (∀ k A B, J k A → Ab A B → J k B) →
    (∀ k (h : k < xs.length) W1, J k W1 → R k W1 → YieldAt F (n - 1) P l xs[k] W1 fun e W' => (e = .returned (.bool true) ∧ J (k + 1) W' ∧ R k W') ∨ (e = .returned (.bool false) ∧ Jx W')) →
    J 0 W → R 0 W → CallsIn F n P g (#[.func (.yield l) #[] #[]] ++ lb) W fun e W' => (∃ v, e = .returned v) ∧ (J xs.length W' ∨ Jx W')

/-- What is asked behind a round's body: it goes on, or it returns; the loop's record lies as it lay. -/
def roundEnd (l : Nat) (o : Option Obj) (I R Ix : World → Prop) : Exit → Act → World → Prop
  | .normal, _, W' => W'.heap[l]? = o ∧ I W' ∧ R W'
  | .ret, _, W' => W'.heap[l]? = o ∧ Ix W'
  | _, _, _ => False

theorem range_gives {F : Fence} {n : Nat} {P : Program} {g : Operand} {ps : Array Tmp} {assign body : Code} {Q : Exit → Act → World → Prop} {a : Act} {w : World}
    (h1 : 1 ≤ n) {gf : Nat} {lb : Array Value} (hg : a.eval g = .func (.func gf) #[] lb) (hFg : F.fn gf) (eg : ∀ args w, (callFunc gf args).run P w = .ok (.enter gf args) w)
    {xs : List (Array Value)} {R : Nat → World → Prop} {Ab : World → World → Prop} (hseq : GivesB F (n - 1) P gf lb xs R Ab) (hps : ∀ x ∈ xs, x.size = ps.size)
    (l D : Nat) (mark : List Deferred) (W1 : FuncId → World) (he : ∀ fn, (Instr.enterLoop fn a.tmps ps assign body F.round).run P w = .ok (l, mark) (W1 fn))
    (hl : ∀ fn, (W1 fn).heap[l]? = some (.loop { state := .ready, pending := none, fn := fn, tmps := a.tmps, params := ps, assign := assign, body := body, defers := D }))
    (I : Nat → World → Prop) (Ix : World → Prop)
    (hIp : ∀ k W r r', I k W → W.heap[l]? = some (.loop r) → I k (W.putObj l (.loop r'))) (hXp : ∀ W r r', Ix W → W.heap[l]? = some (.loop r) → Ix (W.putObj l (.loop r')))
    (hRp : ∀ k W r r', R k W → W.heap[l]? = some (.loop r) → R k (W.putObj l (.loop r'))) (hIa : ∀ k A B, I k A → Ab A B → I k B) (hla : ∀ A B, Ab A B → B.heap[l]? = A.heap[l]?)
    (h0 : ∀ fn, I 0 (W1 fn) ∧ R 0 (W1 fn)) (act : (k : Nat) → k < xs.length → Act)
    (hassign : ∀ k (h : k < xs.length) W (K : Act → World → Prop), K (act k h) W → assign.wpIn (F.inRound l) (n - 1 - 1) P (Exit.then K (fun _ _ _ => False)) { tmps := (ps.zip xs[k]).foldl (fun t (p, v) => t.setIfInBounds p v) a.tmps, defers := [] } W)
    (hbody : ∀ k (h : k < xs.length) W r, W.heap[l]? = some (.loop r) → I k W → R k W → body.wpIn (F.inRound l) (n - 1 - 1) P (roundEnd l (some (.loop r)) (I (k + 1)) (R k) Ix) (act k h) W)
    (hdone : ∀ W, I xs.length W → Q .normal { a with defers := mark ++ a.defers } W) (hstop : ∀ W, Ix W → Code.ret.wpIn F n P Q { a with defers := mark ++ a.defers } W) :
    (Code.rangeFunc g ps assign body).wpIn F n P Q a w := by
  refine wpIn_rangeFunc fun fn hfn => ?_
  obtain ⟨rec, hrec⟩ : ∃ rec : LoopState → Option Code → Loop, rec = fun st pe => { state := st, pending := pe, fn := fn, tmps := a.tmps, params := ps, assign := assign, body := body, defers := D } := ⟨_, rfl⟩
  have hl0 : (W1 fn).heap[l]? = some (.loop (rec .ready none)) := by rw [hrec]; exact hl fn
  refine ⟨l, mark, W1 fn, { target := .fn (.func gf) lb, args := #[.func (.yield l) #[] #[]] }, W1 fn, gf, #[.func (.yield l) #[] #[]] ++ lb, W1 fn, he fn, ?_, ?_, ?_, fun _ => h1, ?_⟩
  · simp only [resolve, hg]
    simp [go_sem]
  · intro f' hf'
    simp [Target.leads] at hf'
    subst hf'
    exact hFg
  · simp [invoke, go_sem, eg]
  · refine (hseq l (fun k W => I k W ∧ W.heap[l]? = some (.loop (rec .ready none))) (fun W => Ix W ∧ W.heap[l]? = some (.loop (rec .done (some .ret)))) (W1 fn)
      (fun k A B hj hab => ⟨hIa k A B hj.1 hab, (hla A B hab).trans hj.2⟩) (fun k hk W hj hr => ?_) ⟨(h0 fn).1, hl0⟩ (h0 fn).2).mono ?_
    · obtain ⟨hi, hrl⟩ := hj
      have hlt : l < W.heap.size := (Array.getElem?_eq_some_iff.1 hrl).1
      have hy := run_yield (P := P) (args := xs[k]) hrl (by rw [hrec]; exact hps _ (List.getElem_mem hk))
      rw [hrec] at hy
      refine ⟨fn, _, assign, body, hy, roundIn_of_wpIn hfn (hassign k hk W _ ?_)⟩
      refine ⟨_, run_beginRound hrl (by rw [hrec]), ?_⟩
      have hl2 : (W.putObj l (.loop { rec .ready none with state := .busy })).heap[l]? = some (.loop { rec .ready none with state := .busy }) := World.putObj_heap_same hlt
      refine wpIn_mono (hbody k hk _ _ hl2 (hIp k W _ _ hi hrl) (hRp k W _ _ hr hrl)) ?_
      rintro e a3 W3 hp
      cases e with
      | normal =>
        obtain ⟨hl3, hi3, hr3⟩ := hp
        have hlt3 : l < W3.heap.size := (Array.getElem?_eq_some_iff.1 hl3).1
        have hend := run_endRound (P := P) none hl3
        refine ⟨_, _, hend, .inl ⟨rfl, ⟨hIp _ _ _ _ hi3 hl3, ?_⟩, hRp _ _ _ _ hr3 hl3⟩⟩
        rw [World.putObj_heap_same hlt3, hrec]; rfl
      | ret =>
        obtain ⟨hl3, hi3⟩ := hp
        have hlt3 : l < W3.heap.size := (Array.getElem?_eq_some_iff.1 hl3).1
        have hend := run_endRound (P := P) (some .ret) hl3
        refine ⟨_, _, hend, .inr ⟨rfl, hXp _ _ _ hi3 hl3, ?_⟩⟩
        rw [World.putObj_heap_same hlt3, hrec]; rfl
      | exit id => exact hp.elim
      | goto t => exact hp.elim
      | panic ch => exact hp.elim
      | outgrown => exact hp.elim
    · rintro e W2 ⟨⟨v, rfl⟩, (⟨hi, hrl⟩ | ⟨hi, hrl⟩)⟩
      · have hend := run_endLoop (P := P) hrl (by rw [hrec]; simp)
        have hpe : (rec .ready none).pending = none := by rw [hrec]
        rw [hpe] at hend
        exact ⟨none, _, hend, hdone _ (hIp _ _ _ _ hi hrl)⟩
      · have hend := run_endLoop (P := P) hrl (by rw [hrec]; simp)
        have hpe : (rec .done (some .ret)).pending = some .ret := by rw [hrec]
        rw [hpe] at hend
        exact ⟨some .ret, _, hend, hstop _ (hXp _ _ _ hi hrl)⟩
end Go.Proofs.Ytnlbmnielemgiaa
namespace Go.Proofs.Ytnlbmnielemgiaa
open Go.RowKit Go.Shelf
attribute [local go_sem] Oper.semAt_some

theorem boxed_other {W : World} {B B' : Nat} {t : TypeId} {v : Value} (h : Boxed W B t v) (hne : B ≠ B') (u : Value) : Boxed (W.setCell ⟨B', 0, none⟩ u) B t v := h.kept (grownBy_setCell' W B' u) (fun e => hne (Option.some.inj e))
theorem boxed_below {W W' : World} {b A : Nat} {t : TypeId} {v : Value} (h : Boxed W b t v) (hb : Below A W W') (hA : b < A) : Boxed W' b t v := (hb.block b hA).trans h
theorem GivesB.inRound {F : Fence} {n : Nat} {P : Program} {g : Nat} {lb : Array Value} {xs : List (Array Value)} {R : Nat → World → Prop} {Ab : World → World → Prop} (l : Nat) (h : GivesB F n P g lb xs R Ab) : GivesB (F.inRound l) n P g lb xs R Ab := h
theorem enter_outer {P : Program} {W : World} {l D : Nat} (hD : W.heap.size = D) (hl : l = D + 1) (fn : FuncId) (tmps : Array Value) (ps : Array Tmp) (assign body : Code) :
    (Instr.enterLoop fn tmps ps assign body none).run P W = .ok (l, [{ target := .collected D, args := #[] }]) ((W.alloc (.deferred (some []))).alloc (.loop { state := .ready, pending := none, fn := fn, tmps := tmps, params := ps, assign := assign, body := body, defers := D })) := by
  subst hD hl; exact run_enterLoop_outer ..
theorem heap_last {W : World} {l : Nat} (hl : W.heap.size = l) (o : Obj) : (W.alloc o).heap[l]? = some o := by subst hl; exact World.alloc_heap_new _ _
theorem enter_inner {P : Program} {W : World} {l : Nat} (hl : W.heap.size = l) {l0 : Nat} {r0 : Loop} (h : W.heap[l0]? = some (.loop r0)) (fn : FuncId) (tmps : Array Value) (ps : Array Tmp) (assign body : Code) :
    (Instr.enterLoop fn tmps ps assign body (some l0)).run P W = .ok (l, []) (W.alloc (.loop { state := .ready, pending := none, fn := fn, tmps := tmps, params := ps, assign := assign, body := body, defers := r0.defers })) := by
  subst hl; exact run_enterLoop_inner h ..
def nilS : Value := .slice none 0 0
theorem sameIn_grownD {A B x : Nat} {W W' : World} (hg : W.grownBy W' (some x)) (hB : B ≤ W.heap.size) (hx : x < A) : SameIn A B W W' := fun k h1 h2 => hg.block k (by omega) (fun e => by have := Option.some.inj e; omega)
theorem heap_grown {W W' : World} {x k : Nat} {o : Obj} (h : W.heap[k]? = some o) (hg : W.grownBy W' (some x)) (hx : k ≠ x) : W'.heap[k]? = some o :=
  (hg.block k (Array.getElem?_eq_some_iff.1 h).1 (fun e => hx (Option.some.inj e))).trans h
theorem RowI.other {A B x : Nat} {W W' : World} {v : Value} {l : List Int} (h : RowI A B W v l) (hg : W.grownBy W' (some x)) (hx : x < A) : RowI A B W' v l :=
  h.grown hg (by
    cases hv : v.ownBlock with
    | none => exact .inl rfl
    | some g => exact .inr fun e => by have h1 := (h.1.lt g hv).1; have := Option.some.inj e; omega)
end Go.Proofs.Ytnlbmnielemgiaa
