/-
  Appends onto rows and matrices of the call's own: many ints at once, zeros, a row; in the order of the text and inside a region without order.
-/
import Derived.Deep.RegionLaw
import Derived.Test.YtfjeghalkmkgoaaGreatDoorFW07
import Derived.Test.YtfjeghalkmkgoaaGreatDoorZeros
namespace Go.Proofs.YtfjeghalkmkgoaaGreatDoor
open Go.RowKit

/-- What an append onto a row leaves. -/
abbrev AfterRow (A : Nat) (wr : World) (l : List Int) (h : Value → World → Prop) : Prop :=
  ∀ v' w', RowI A w'.heap.size w' v' l → (∀ W C, C ≤ A → Below C W wr → Below C W w') → wr.heap.size ≤ w'.heap.size → h v' w'
abbrev AfterMat (A : Nat) (wr : World) (m : List (List Int)) (h : Value → World → Prop) : Prop :=
  ∀ v' w', MatI A w'.heap.size w' v' m → (∀ W C, C ≤ A → Below C W wr → Below C W w') → wr.heap.size ≤ w'.heap.size → h v' w'

theorem wp_ints {o : Oper} {a : Act} {K : Act → World → Prop} {Q : Exit → Act → World → Prop} {s x : Operand} {A B : Nat} {v xv : Value} {l l2 : List Int} {wr : World}
    (hM : RowI A wr.heap.size wr v l) (hA : A ≤ wr.heap.size) (hr : RowB B wr xv l2) (h0 : l2 ≠ [])
    (ho : o.op = .call { callee := .builtin .append, args := #[s, x], argTypes := #[25, 25] }) (hs : a.eval s = v) (hx : a.eval x = xv) (hlen : l.length + l2.length ≤ 4194304)
    (h : AfterRow A wr (l ++ l2) fun v' w' => K (a.put o.dst v') w') : o.wp Tryz.prog a wr K Q := by
  obtain ⟨h1, h2⟩ := hM
  obtain ⟨i0, hi, hz0, hz1, hz2⟩ := info_parts Tryz.infoInt
  rcases hr with ⟨h', _⟩ | ⟨b, off, cap, rfl, hb, hc⟩
  · exact absurd h' h0
  have hl2 : (intsV l2).length = l2.length * 1 := by rw [intsV_len]; omega
  refine wp_append_own wr s x 25 ho A 3 i0 (.int .i64 0) 1 8 Tryz.underlying25 hi hz0 hz1 hz2 rfl (by omega) v l.length (intsV l) hs h1 ⟨b, off, none⟩ l2.length cap (intsV l2) hx hl2 (fun j u hu => ?_) (fun u hu => ?_) (by unfold maxLen; omega) (by omega) hA ?_
  · have hj : j < l2.length := by have := (List.getElem?_eq_some_iff.1 hu).1; rwa [intsV_len] at this
    rw [Addr.add_lit, hc j hj, ← hu]
    simp [intsV, hj]
  · obtain ⟨n, _, rfl⟩ := List.mem_map.1 hu
    rfl
  · intro v' w' ho' hg _
    refine h v' w' ⟨?_, fun g hgg => (ho'.lt g hgg).2⟩ (fun W C hC hb => ?_) hg.size
    · have e : intsV l ++ intsV l2 = intsV (l ++ l2) := by simp [intsV]
      rw [e] at ho'
      rw [List.length_append]
      exact ho'
    · exact hb.grown hg (by omega) (fun k hk => by have := (h1.lt k hk).1; omega)

/-- 'append(row, xs...)', xs not empty. -/
theorem append_ints {ops : Array Oper} {rest : List Oper} {o : Oper} {a : Act} {Q : Exit → Act → World → Prop} {s x : Operand} {A B : Nat} {v xv : Value} {l l2 : List Int} {wr : World}
    (hM : RowI A wr.heap.size wr v l) (hA : A ≤ wr.heap.size) (hr : RowB B wr xv l2) (h0 : l2 ≠ []) (hlen : l.length + l2.length ≤ 4194304) (hgd : o.guard = none)
    (ho : o.op = .call { callee := .builtin .append, args := #[s, x], argTypes := #[25, 25] }) (hs : a.eval s = v) (hx : a.eval x = xv)
    (h : AfterRow A wr (l ++ l2) fun v' w' => wpList Tryz.prog ops Q rest (a.put o.dst v') w') : wpList Tryz.prog ops Q (o :: rest) a wr :=
  wpList_plain hgd fun _ hK => wp_ints hM hA hr h0 ho hs hx hlen fun v' w' h2 h3 h4 => hK _ _ (h v' w' h2 h3 h4)
theorem step_ints {ops : Array Oper} {o : Oper} {a : Act} {K : Act → World → Prop} {Q : Exit → Act → World → Prop} {E : Prop} {s x : Operand} {A B : Nat} {v xv : Value} {l l2 : List Int} {wr : World}
    (hM : RowI A wr.heap.size wr v l) (hA : A ≤ wr.heap.size) (hr : RowB B wr xv l2) (h0 : l2 ≠ []) (hlen : l.length + l2.length ≤ 4194304) (hgd : o.guard = none)
    (ho : o.op = .call { callee := .builtin .append, args := #[s, x], argTypes := #[25, 25] }) (hs : a.eval s = v) (hx : a.eval x = xv)
    (h : AfterRow A wr (l ++ l2) fun v' w' => K (a.put o.dst v') w') : if Region.wanted o (yielded ops a.tmps) = true then Oper.wp Tryz.prog o a wr K Q else E := by
  have hw : Region.wanted o (yielded ops a.tmps) = true := by simp [Region.wanted, hgd]
  rw [if_pos hw]
  exact wp_ints hM hA hr h0 ho hs hx hlen h

/-- 'append(row, make([]int, n)...)', n at least 1, row not empty. -/
theorem append_zeros {ops : Array Oper} {rest : List Oper} {o : Oper} {a : Act} {Q : Exit → Act → World → Prop} {s x : Operand} {A : Nat} {v : Value} {l : List Int} {wr : World}
    (hM : RowI A wr.heap.size wr v l) (hA : A ≤ wr.heap.size) (h0 : l ≠ []) (n : Nat) (hn : 0 < n) (hlen : l.length + n ≤ 4194304) (hgd : o.guard = none)
    (ho : o.op = .call { callee := .builtin .append, args := #[s, x], argTypes := #[25, 3] }) (hs : a.eval s = v) (hx : a.eval x = .int .i64 (n : Int))
    (h : AfterRow A wr (l ++ List.replicate n 0) fun v' w' => wpList Tryz.prog ops Q rest (a.put o.dst v') w') : wpList Tryz.prog ops Q (o :: rest) a wr := by
  obtain ⟨h1, h2⟩ := hM
  obtain ⟨i0, hi, hz0, hz1, hz2⟩ := info_parts Tryz.infoInt
  obtain ⟨ra, rcap, rfl⟩ : ∃ g cap, v = .slice (some ⟨g, 0, none⟩) l.length cap := by
    rcases h1.2 with ⟨_, hl⟩ | ⟨g, cap, cur, hv, _⟩
    · exact absurd (List.eq_nil_of_length_eq_zero hl) h0
    · exact ⟨g, cap, hv⟩
  obtain ⟨v', w', hrun, ho', hg⟩ := run_append_zeros (P := Tryz.prog) wr A 25 3 o.type 3 i0 (.int .i64 0) 8 .i64 .i64 Tryz.underlying25 Tryz.underlying3 hi hz0 hz1 hz2 rfl rfl ra rcap l.length (intsV l) h1 n hn (by unfold maxLen; omega) (by omega) hA
  refine Lib.wpList_append_run wr hgd s x 25 3 ho _ _ hs hx v' w' hrun ?_
  refine h v' w' ⟨?_, fun g hgg => (ho'.lt g hgg).2⟩ (fun W C hC hb => ?_) hg.size
  · have e : intsV l ++ List.replicate n (.int .i64 0) = intsV (l ++ List.replicate n 0) := by simp [intsV]
    rw [e] at ho'
    rw [List.length_append, List.length_replicate]
    exact ho'
  · have h9 : A ≤ ra := (h1.lt ra rfl).1
    exact hb.grown hg (by omega) (fun k hk => by injection hk with hk; omega)

theorem wp_row {o : Oper} {a : Act} {K : Act → World → Prop} {Q : Exit → Act → World → Prop} {s x : Operand} {A B C gl : Nat} {v rv : Value} {m : List (List Int)} {l : List Int} {w : World}
    (hM : MatI A B w v m) (hr : RowI B C w rv l) (hAB : A ≤ B) (hBw : B ≤ w.heap.size) (hCw : C ≤ w.heap.size) (hnew : w.heap[gl]? = some (.cells #[rv] 25 (0, 0)))
    (ho : o.op = .call { callee := .builtin .append, args := #[s, x], argTypes := #[24, 24] }) (hs : a.eval s = v)
    (hx : a.eval x = .slice (some ⟨gl, 0, none⟩) 1 1) (hlen : m.length ≤ 1048576)
    (h : AfterMat A w (m ++ [l]) fun v' w' => K (a.put o.dst v') w') : o.wp Tryz.prog a w K Q := by
  obtain ⟨hh, h1, h2, h3, h4⟩ := hM
  obtain ⟨i0, hi, hz0, hz1, hz2⟩ := info_parts Tryz.infoRow
  have hll : hh.length = m.length := by have := h1.1; omega
  have hone : rv.oneCell' = true := by
    obtain ⟨ra, rcap, rfl⟩ := hr.slice
    rfl
  refine wp_append_own w s x 24 ho A 25 i0 (.slice none 0 0) 1 24 Tryz.underlying24 hi hz0 hz1 hz2 rfl (by omega) v m.length hh hs h1 ⟨gl, 0, none⟩ 1 1 [rv] hx rfl (fun j u hu => ?_) (fun u hu => ?_) (by unfold maxLen; omega) (by omega) (by omega) ?_
  · match j, hu with
    | 0, hu =>
      simp at hu
      subst hu
      rw [Addr.add_lit, cell_of_row w gl 0 _ _ _ hnew]
      rfl
    | j + 1, hu => simp at hu
  · simp at hu
    subst hu
    exact hone
  · intro v' w' ho' hg _
    have hlh : (hh ++ [rv]).length = m.length + 1 := by simp [hll]
    have hM' := mat_snoc h1 h2 h3 h4 (hr.mono (Nat.le_refl _) hCw) hAB hBw (by rw [hlh]; exact ho') hg
    exact h v' w' hM' (fun W C hC hb => hb.grown hg (by omega) (fun k hk => by have := (h1.lt k hk).1; omega)) hg.size
theorem append_row2 {ops : Array Oper} {rest : List Oper} {o : Oper} {a : Act} {Q : Exit → Act → World → Prop} {s x : Operand} {A B C gl : Nat} {v rv : Value} {m : List (List Int)} {l : List Int} {w : World}
    (hM : MatI A B w v m) (hr : RowI B C w rv l) (hAB : A ≤ B) (hBw : B ≤ w.heap.size) (hCw : C ≤ w.heap.size) (hnew : w.heap[gl]? = some (.cells #[rv] 25 (0, 0))) (hlen : m.length ≤ 1048576) (hgd : o.guard = none)
    (ho : o.op = .call { callee := .builtin .append, args := #[s, x], argTypes := #[24, 24] }) (hs : a.eval s = v) (hx : a.eval x = .slice (some ⟨gl, 0, none⟩) 1 1)
    (h : AfterMat A w (m ++ [l]) fun v' w' => wpList Tryz.prog ops Q rest (a.put o.dst v') w') : wpList Tryz.prog ops Q (o :: rest) a w :=
  wpList_plain hgd fun _ hK => wp_row hM hr hAB hBw hCw hnew ho hs hx hlen fun v' w' h2 h3 h4 => hK _ _ (h v' w' h2 h3 h4)
theorem step_row {ops : Array Oper} {o : Oper} {a : Act} {K : Act → World → Prop} {Q : Exit → Act → World → Prop} {E : Prop} {s x : Operand} {A B C gl : Nat} {v rv : Value} {m : List (List Int)} {l : List Int} {w : World}
    (hM : MatI A B w v m) (hr : RowI B C w rv l) (hAB : A ≤ B) (hBw : B ≤ w.heap.size) (hCw : C ≤ w.heap.size) (hnew : w.heap[gl]? = some (.cells #[rv] 25 (0, 0))) (hlen : m.length ≤ 1048576) (hgd : o.guard = none)
    (ho : o.op = .call { callee := .builtin .append, args := #[s, x], argTypes := #[24, 24] }) (hs : a.eval s = v) (hx : a.eval x = .slice (some ⟨gl, 0, none⟩) 1 1)
    (h : AfterMat A w (m ++ [l]) fun v' w' => K (a.put o.dst v') w') : if Region.wanted o (yielded ops a.tmps) = true then Oper.wp Tryz.prog o a w K Q else E := by
  have hw : Region.wanted o (yielded ops a.tmps) = true := by simp [Region.wanted, hgd]
  rw [if_pos hw]
  exact wp_row hM hr hAB hBw hCw hnew ho hs hx hlen h

theorem RowI.alloc {A B : Nat} {w : World} {v : Value} {l : List Int} (h : RowI A B w v l) (o : Obj) : RowI A B (w.alloc o) v l := ⟨h.1.alloc o, h.2⟩
theorem row_made (w : World) (n : Nat) (hn : n ≤ 1048576) : RowI w.heap.size (w.alloc (.cells (intsV (List.replicate n 0)).toArray 3)).drew.heap.size (w.alloc (.cells (intsV (List.replicate n 0)).toArray 3)).drew (.slice (some ⟨w.heap.size, 0, none⟩) n n) (List.replicate n 0) := by
  refine ⟨?_, fun g hg => ?_⟩
  · have h := World.ownsRow_lit (base := w.heap.size) (e := 3) (size := 1) w (intsV (List.replicate n 0)).toArray n (Nat.le_refl _) (by unfold maxLen; omega) (by simp [intsV])
    have e : (List.replicate n (0 : Int)).length = n := by simp
    rw [e]
    exact h.drew
  · have : w.heap.size = g := by simpa [Value.ownBlock] using hg
    show g < (w.alloc _).heap.size
    simp; omega
theorem mat_behind {A : Nat} {w w0 w1 : World} {v : Value} {m : List (List Int)} (hM : MatI A w.heap.size w v m) (h0 : Below w.heap.size w w0) (hb : ∀ (W : World) (C : Nat), C ≤ w.heap.size → Below C W w0 → Below C W w1) (o : Obj) :
    MatI A w.heap.size (w1.alloc o) v m := by
  have h1 := hb w w.heap.size (Nat.le_refl _) h0
  exact hM.same (SameIn.of_below (h1.alloc h1.size o) (Nat.le_refl _))
end Go.Proofs.YtfjeghalkmkgoaaGreatDoor
