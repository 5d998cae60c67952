/-
  Appends onto rows and matrices of the call's own: many ints at once, zeros, a row; in the order of the text and inside a region without order.
  Rows of ints appended to a row of the call's own, empty or not.
  append(row, x) of a row that may be empty, told where the new row lies (the text of Min's law, alone).
  Lengths: a row that is read while another one of the call's own grows.
  A cell of a row that reads as a list.
  Words: what the model's functions of chapter 5 return.
-/
import Derived.Deep.RegionLaw
import Derived.Test.YtbmghddmilgngaaLc13
import Derived.Test.YtbmghddmilgngaaZeros
import Derived.Laws.AppendOwn
import Derived.Maps.AppendAt
import Derived.Test.YtbmghddmilgngaaLc08
import Derived.Test.YtbmghddmilgngaaLc01
import Derived.Test.YtbmghddmilgngaaLc03
namespace Go.Proofs.Ytbmghddmilgngaa
open Go.RowKit

/-- What an append onto a row leaves. -/
abbrev AfterRow (A : Nat) (wr : World) (l : List Int) (h : Value → World → Prop) : Prop :=
  ∀ v' w', RowI A w'.heap.size w' v' l → (∀ W C, C ≤ A → Below C W wr → Below C W w') → wr.heap.size ≤ w'.heap.size → h v' w'
abbrev AfterMat (A : Nat) (wr : World) (m : List (List Int)) (h : Value → World → Prop) : Prop :=
  ∀ v' w', MatI A w'.heap.size w' v' m → (∀ W C, C ≤ A → Below C W wr → Below C W w') → wr.heap.size ≤ w'.heap.size → h v' w'

theorem wp_ints {o : Oper} {a : Act} {K : Act → World → Prop} {Q : Exit → Act → World → Prop} {s x : Operand} {A B : Nat} {v xv : Value} {l l2 : List Int} {wr : World}
    (hM : RowI A wr.heap.size wr v l) (hA : A ≤ wr.heap.size) (hr : RowB B wr xv l2) (h0 : l2 ≠ [])
    (ho : o.op = .call { callee := .builtin .append, args := #[s, x], argTypes := #[25, 25] }) (hs : a.eval s = v) (hx : a.eval x = xv) (hlen : l.length + l2.length ≤ 4194304)
    (h : AfterRow A wr (l ++ l2) fun v' w' => K (a.put o.dst v') w') : o.wp Try.prog a wr K Q := by
  obtain ⟨h1, h2⟩ := hM
  obtain ⟨i0, hi, hz0, hz1, hz2⟩ := info_parts Try.infoInt
  rcases hr with ⟨h', _⟩ | ⟨b, off, cap, rfl, hb, hc⟩
  · exact absurd h' h0
  have hl2 : (intsV l2).length = l2.length * 1 := by rw [intsV_len]; omega
  refine wp_append_own wr s x 25 ho A 3 i0 (.int .i64 0) 1 8 Try.underlying25 hi hz0 hz1 hz2 rfl (by omega) v l.length (intsV l) hs h1 ⟨b, off, none⟩ l2.length cap (intsV l2) hx hl2 (fun j u hu => ?_) (fun u hu => ?_) (by unfold maxLen; omega) (by omega) hA ?_
  · have hj : j < l2.length := by have := (List.getElem?_eq_some_iff.1 hu).1; rwa [intsV_len] at this
    rw [Addr.add_lit, hc j hj, ← hu]
    simp [intsV, hj]
  · obtain ⟨n, _, rfl⟩ := List.mem_map.1 hu
    rfl
  · intro v' w' ho' hg _
    refine h v' w' ⟨?_, fun g hgg => (ho'.lt g hgg).2⟩ (fun W C hC hb => ?_) hg.size
    · have e : intsV l ++ intsV l2 = intsV (l ++ l2) := by simp [intsV]
      rw [e] at ho'
      rw [List.length_append]
      exact ho'
    · exact hb.grown hg (by omega) (fun k hk => by have := (h1.lt k hk).1; omega)

/-- 'append(row, xs...)', xs not empty. -/
theorem append_ints {ops : Array Oper} {rest : List Oper} {o : Oper} {a : Act} {Q : Exit → Act → World → Prop} {s x : Operand} {A B : Nat} {v xv : Value} {l l2 : List Int} {wr : World}
    (hM : RowI A wr.heap.size wr v l) (hA : A ≤ wr.heap.size) (hr : RowB B wr xv l2) (h0 : l2 ≠ []) (hlen : l.length + l2.length ≤ 4194304) (hgd : o.guard = none)
    (ho : o.op = .call { callee := .builtin .append, args := #[s, x], argTypes := #[25, 25] }) (hs : a.eval s = v) (hx : a.eval x = xv)
    (h : AfterRow A wr (l ++ l2) fun v' w' => wpList Try.prog ops Q rest (a.put o.dst v') w') : wpList Try.prog ops Q (o :: rest) a wr :=
  wpList_plain hgd fun _ hK => wp_ints hM hA hr h0 ho hs hx hlen fun v' w' h2 h3 h4 => hK _ _ (h v' w' h2 h3 h4)
theorem step_ints {ops : Array Oper} {o : Oper} {a : Act} {K : Act → World → Prop} {Q : Exit → Act → World → Prop} {E : Prop} {s x : Operand} {A B : Nat} {v xv : Value} {l l2 : List Int} {wr : World}
    (hM : RowI A wr.heap.size wr v l) (hA : A ≤ wr.heap.size) (hr : RowB B wr xv l2) (h0 : l2 ≠ []) (hlen : l.length + l2.length ≤ 4194304) (hgd : o.guard = none)
    (ho : o.op = .call { callee := .builtin .append, args := #[s, x], argTypes := #[25, 25] }) (hs : a.eval s = v) (hx : a.eval x = xv)
    (h : AfterRow A wr (l ++ l2) fun v' w' => K (a.put o.dst v') w') : if Region.wanted o (yielded ops a.tmps) = true then Oper.wp Try.prog o a wr K Q else E := by
  have hw : Region.wanted o (yielded ops a.tmps) = true := by simp [Region.wanted, hgd]
  rw [if_pos hw]
  exact wp_ints hM hA hr h0 ho hs hx hlen h

/-- 'append(row, make([]int, n)...)', n at least 1, row not empty. -/
theorem append_zeros {ops : Array Oper} {rest : List Oper} {o : Oper} {a : Act} {Q : Exit → Act → World → Prop} {s x : Operand} {A : Nat} {v : Value} {l : List Int} {wr : World}
    (hM : RowI A wr.heap.size wr v l) (hA : A ≤ wr.heap.size) (h0 : l ≠ []) (n : Nat) (hn : 0 < n) (hlen : l.length + n ≤ 4194304) (hgd : o.guard = none)
    (ho : o.op = .call { callee := .builtin .append, args := #[s, x], argTypes := #[25, 3] }) (hs : a.eval s = v) (hx : a.eval x = .int .i64 (n : Int))
    (h : AfterRow A wr (l ++ List.replicate n 0) fun v' w' => wpList Try.prog ops Q rest (a.put o.dst v') w') : wpList Try.prog ops Q (o :: rest) a wr := by
  obtain ⟨h1, h2⟩ := hM
  obtain ⟨i0, hi, hz0, hz1, hz2⟩ := info_parts Try.infoInt
  obtain ⟨ra, rcap, rfl⟩ : ∃ g cap, v = .slice (some ⟨g, 0, none⟩) l.length cap := by
    rcases h1.2 with ⟨_, hl⟩ | ⟨g, cap, cur, hv, _⟩
    · exact absurd (List.eq_nil_of_length_eq_zero hl) h0
    · exact ⟨g, cap, hv⟩
  obtain ⟨v', w', hrun, ho', hg⟩ := run_append_zeros (P := Try.prog) wr A 25 3 o.type 3 i0 (.int .i64 0) 8 .i64 .i64 Try.underlying25 Try.underlying3 hi hz0 hz1 hz2 rfl rfl ra rcap l.length (intsV l) h1 n hn (by unfold maxLen; omega) (by omega) hA
  refine Lib.wpList_append_run wr hgd s x 25 3 ho _ _ hs hx v' w' hrun ?_
  refine h v' w' ⟨?_, fun g hgg => (ho'.lt g hgg).2⟩ (fun W C hC hb => ?_) hg.size
  · have e : intsV l ++ List.replicate n (.int .i64 0) = intsV (l ++ List.replicate n 0) := by simp [intsV]
    rw [e] at ho'
    rw [List.length_append, List.length_replicate]
    exact ho'
  · have h9 : A ≤ ra := (h1.lt ra rfl).1
    exact hb.grown hg (by omega) (fun k hk => by injection hk with hk; omega)

theorem wp_row {o : Oper} {a : Act} {K : Act → World → Prop} {Q : Exit → Act → World → Prop} {s x : Operand} {A B C gl : Nat} {v rv : Value} {m : List (List Int)} {l : List Int} {w : World}
    (hM : MatI A B w v m) (hr : RowI B C w rv l) (hAB : A ≤ B) (hBw : B ≤ w.heap.size) (hCw : C ≤ w.heap.size) (hnew : w.heap[gl]? = some (.cells #[rv] 25 (0, 0)))
    (ho : o.op = .call { callee := .builtin .append, args := #[s, x], argTypes := #[24, 24] }) (hs : a.eval s = v)
    (hx : a.eval x = .slice (some ⟨gl, 0, none⟩) 1 1) (hlen : m.length ≤ 1048576)
    (h : AfterMat A w (m ++ [l]) fun v' w' => K (a.put o.dst v') w') : o.wp Try.prog a w K Q := by
  obtain ⟨hh, h1, h2, h3, h4⟩ := hM
  obtain ⟨i0, hi, hz0, hz1, hz2⟩ := info_parts Try.infoRow
  have hll : hh.length = m.length := by have := h1.1; omega
  have hone : rv.oneCell' = true := by
    obtain ⟨ra, rcap, rfl⟩ := hr.slice
    rfl
  refine wp_append_own w s x 24 ho A 25 i0 (.slice none 0 0) 1 24 Try.underlying24 hi hz0 hz1 hz2 rfl (by omega) v m.length hh hs h1 ⟨gl, 0, none⟩ 1 1 [rv] hx rfl (fun j u hu => ?_) (fun u hu => ?_) (by unfold maxLen; omega) (by omega) (by omega) ?_
  · match j, hu with
    | 0, hu =>
      simp at hu
      subst hu
      rw [Addr.add_lit, cell_of_row w gl 0 _ _ _ hnew]
      rfl
    | j + 1, hu => simp at hu
  · simp at hu
    subst hu
    exact hone
  · intro v' w' ho' hg _
    have hlh : (hh ++ [rv]).length = m.length + 1 := by simp [hll]
    have hM' := mat_snoc h1 h2 h3 h4 (hr.mono (Nat.le_refl _) hCw) hAB hBw (by rw [hlh]; exact ho') hg
    exact h v' w' hM' (fun W C hC hb => hb.grown hg (by omega) (fun k hk => by have := (h1.lt k hk).1; omega)) hg.size
theorem append_row2 {ops : Array Oper} {rest : List Oper} {o : Oper} {a : Act} {Q : Exit → Act → World → Prop} {s x : Operand} {A B C gl : Nat} {v rv : Value} {m : List (List Int)} {l : List Int} {w : World}
    (hM : MatI A B w v m) (hr : RowI B C w rv l) (hAB : A ≤ B) (hBw : B ≤ w.heap.size) (hCw : C ≤ w.heap.size) (hnew : w.heap[gl]? = some (.cells #[rv] 25 (0, 0))) (hlen : m.length ≤ 1048576) (hgd : o.guard = none)
    (ho : o.op = .call { callee := .builtin .append, args := #[s, x], argTypes := #[24, 24] }) (hs : a.eval s = v) (hx : a.eval x = .slice (some ⟨gl, 0, none⟩) 1 1)
    (h : AfterMat A w (m ++ [l]) fun v' w' => wpList Try.prog ops Q rest (a.put o.dst v') w') : wpList Try.prog ops Q (o :: rest) a w :=
  wpList_plain hgd fun _ hK => wp_row hM hr hAB hBw hCw hnew ho hs hx hlen fun v' w' h2 h3 h4 => hK _ _ (h v' w' h2 h3 h4)
theorem step_row {ops : Array Oper} {o : Oper} {a : Act} {K : Act → World → Prop} {Q : Exit → Act → World → Prop} {E : Prop} {s x : Operand} {A B C gl : Nat} {v rv : Value} {m : List (List Int)} {l : List Int} {w : World}
    (hM : MatI A B w v m) (hr : RowI B C w rv l) (hAB : A ≤ B) (hBw : B ≤ w.heap.size) (hCw : C ≤ w.heap.size) (hnew : w.heap[gl]? = some (.cells #[rv] 25 (0, 0))) (hlen : m.length ≤ 1048576) (hgd : o.guard = none)
    (ho : o.op = .call { callee := .builtin .append, args := #[s, x], argTypes := #[24, 24] }) (hs : a.eval s = v) (hx : a.eval x = .slice (some ⟨gl, 0, none⟩) 1 1)
    (h : AfterMat A w (m ++ [l]) fun v' w' => K (a.put o.dst v') w') : if Region.wanted o (yielded ops a.tmps) = true then Oper.wp Try.prog o a w K Q else E := by
  have hw : Region.wanted o (yielded ops a.tmps) = true := by simp [Region.wanted, hgd]
  rw [if_pos hw]
  exact wp_row hM hr hAB hBw hCw hnew ho hs hx hlen h

theorem RowI.alloc {A B : Nat} {w : World} {v : Value} {l : List Int} (h : RowI A B w v l) (o : Obj) : RowI A B (w.alloc o) v l := ⟨h.1.alloc o, h.2⟩
theorem row_made (w : World) (n : Nat) (hn : n ≤ 1048576) : RowI w.heap.size (w.alloc (.cells (intsV (List.replicate n 0)).toArray 3)).drew.heap.size (w.alloc (.cells (intsV (List.replicate n 0)).toArray 3)).drew (.slice (some ⟨w.heap.size, 0, none⟩) n n) (List.replicate n 0) := by
  refine ⟨?_, fun g hg => ?_⟩
  · have h := World.ownsRow_lit (base := w.heap.size) (e := 3) (size := 1) w (intsV (List.replicate n 0)).toArray n (Nat.le_refl _) (by unfold maxLen; omega) (by simp [intsV])
    have e : (List.replicate n (0 : Int)).length = n := by simp
    rw [e]
    exact h.drew
  · have : w.heap.size = g := by simpa [Value.ownBlock] using hg
    show g < (w.alloc _).heap.size
    simp; omega
theorem mat_behind {A : Nat} {w w0 w1 : World} {v : Value} {m : List (List Int)} (hM : MatI A w.heap.size w v m) (h0 : Below w.heap.size w w0) (hb : ∀ (W : World) (C : Nat), C ≤ w.heap.size → Below C W w0 → Below C W w1) (o : Obj) :
    MatI A w.heap.size (w1.alloc o) v m := by
  have h1 := hb w w.heap.size (Nat.le_refl _) h0
  exact hM.same (SameIn.of_below (h1.alloc h1.size o) (Nat.le_refl _))
end Go.Proofs.Ytbmghddmilgngaa
namespace Go.Proofs.Ytbmghddmilgngaa
open Go.RowKit

/-- Nothing is appended to a row of the call's own, from a slice without address. -/
theorem append_nothing {P : Program} {w : World} (base : Nat) (t ty e : TypeId) (i : TypeInfo) (size : Nat) (ht : P.underlying t = some (.slice e)) (hi : P.info? e = some i)
    (v : Value) (n c : Nat) (xs : List Value) (hown : w.ownsRow base e size v n xs) : (Builtin.append_ #[t, t] ty #[v, .slice none 0 c]).run P w = .ok v w := by
  obtain ⟨_, h | h⟩ := hown
  · obtain ⟨rfl, _⟩ := h
    simp [Builtin.append_, run_underlying ht, sizeOf, typeInfo, hi, Builtin.lenOf, Builtin.firstCells]
  · obtain ⟨g, cap, cur, rfl, _, _, hcap, _⟩ := h
    have hroom : ¬ cap < n := by omega
    simp [Builtin.append_, run_underlying ht, sizeOf, typeInfo, hi, Builtin.lenOf, Builtin.firstCells, hroom, storeCells]
theorem wp_intsA {o : Oper} {a : Act} {K : Act → World → Prop} {Q : Exit → Act → World → Prop} {s x : Operand} {A B : Nat} {v xv : Value} {l l2 : List Int} {wr : World}
    (hM : RowI A wr.heap.size wr v l) (hA : A ≤ wr.heap.size) (hr : RowB B wr xv l2)
    (ho : o.op = .call { callee := .builtin .append, args := #[s, x], argTypes := #[25, 25] }) (hs : a.eval s = v) (hx : a.eval x = xv) (hlen : l.length + l2.length ≤ 4194304)
    (h : AfterRow A wr (l ++ l2) fun v' w' => K (a.put o.dst v') w') : o.wp Try.prog a wr K Q := by
  by_cases h0 : l2 = []
  · subst h0
    obtain ⟨h1, h2⟩ := hM
    obtain ⟨i0, hi, hz0, hz1, hz2⟩ := info_parts Try.infoInt
    have hsl : ∃ p c, xv = .slice p 0 c := by
      rcases hr with ⟨_, p, c, h⟩ | ⟨b, off, c, h, _⟩
      · exact ⟨p, c, h⟩
      · exact ⟨_, c, h⟩
    obtain ⟨p, c, rfl⟩ := hsl
    cases p with
    | none =>
      have hrun := append_nothing (P := Try.prog) A 25 o.type 3 i0 1 Try.underlying25 hi v l.length c (intsV l) h1
      unfold Oper.wp
      simp [execOp, ho, resolve, invoke, builtin, hs, hx, hrun, Result.andThen]
      exact h v wr (by rw [List.append_nil]; exact ⟨h1, h2⟩) (fun W C _ hb => hb) (Nat.le_refl _)
    | some p =>
      refine wp_append_own wr s x 25 ho A 3 i0 (.int .i64 0) 1 8 Try.underlying25 hi hz0 hz1 hz2 rfl (by omega) v l.length (intsV l) hs h1 p 0 c [] hx rfl (fun j u hu => by simp at hu) (fun u hu => by simp at hu) (by simp at hlen; unfold maxLen; omega) (by simp at hlen; omega) hA ?_
      intro v' w' ho' hg _
      refine h v' w' ⟨?_, fun g hgg => (ho'.lt g hgg).2⟩ (fun W C hC hb => ?_) hg.size
      · simpa using ho'
      · exact hb.grown hg (by omega) (fun k hk => by have := (h1.lt k hk).1; omega)
  · exact wp_ints hM hA hr h0 ho hs hx hlen h
/-- 'append(row, xs...)', xs empty or not. -/
theorem append_intsA {ops : Array Oper} {rest : List Oper} {o : Oper} {a : Act} {Q : Exit → Act → World → Prop} {s x : Operand} {A B : Nat} {v xv : Value} {l l2 : List Int} {wr : World}
    (hM : RowI A wr.heap.size wr v l) (hA : A ≤ wr.heap.size) (hr : RowB B wr xv l2) (hlen : l.length + l2.length ≤ 4194304) (hgd : o.guard = none)
    (ho : o.op = .call { callee := .builtin .append, args := #[s, x], argTypes := #[25, 25] }) (hs : a.eval s = v) (hx : a.eval x = xv)
    (h : AfterRow A wr (l ++ l2) fun v' w' => wpList Try.prog ops Q rest (a.put o.dst v') w') : wpList Try.prog ops Q (o :: rest) a wr :=
  wpList_plain hgd fun _ hK => wp_intsA hM hA hr ho hs hx hlen fun v' w' h2 h3 h4 => hK _ _ (h v' w' h2 h3 h4)
end Go.Proofs.Ytbmghddmilgngaa
namespace Go.Proofs.Ytbmghddmilgngaa
open Go.RowKit

/-! ### append(row, x) where the row may be empty -/
set_option maxRecDepth 100000 in
theorem append_intP {ops : Array Oper} {rest : List Oper} {o : Oper} {a : Act} {Q : Exit → Act → World → Prop} {s x : Operand} {A q : Nat} {v : Value} {l : List Int} {wr : World}
    (hM : RowI A wr.heap.size wr v l) (hA : A ≤ wr.heap.size) (hq : q = wr.heap.size) (n : Int) (hgd : o.guard = none)
    (ho : o.op = .call { callee := .builtin .append, args := #[s, x], argTypes := #[25, 25] }) (hs : a.eval s = v)
    (hx : a.eval x = .slice (some ⟨q, 0, none⟩) 1 1) (hlen : l.length ≤ 4194304)
    (h : ∀ v' w', RowI A w'.heap.size w' v' (l ++ [n]) → wr.grownBy w' v.ownBlock → (∀ g, v'.ownBlock = some g → v.ownBlock = some g ∨ wr.heap.size ≤ g) → wpList Try.prog ops Q rest (a.put o.dst v') w') :
    wpList Try.prog ops Q (o :: rest) a (wr.alloc (.cells #[.int .i64 n] 3)) := by
  subst hq
  obtain ⟨h1, h2⟩ := hM
  obtain ⟨i0, hi, hz0, hz1, hz2⟩ := info_parts Try.infoInt
  have h1a := h1.alloc (.cells #[.int .i64 n] 3)
  have hnew : ∀ j u, [Value.int .i64 n][j]? = some u → (wr.alloc (.cells #[.int .i64 n] 3)).cell? ((⟨wr.heap.size, 0, none⟩ : Addr).add j) = some u := by
    intro j u hu
    match j, hu with
    | 0, hu =>
      simp at hu
      subst hu
      rw [Addr.add_lit, cell_of_row _ wr.heap.size 0 _ _ _ (MapKept.heap_alloc wr _).1]
      rfl
    | j + 1, hu => simp at hu
  have hone : ∀ u ∈ [Value.int .i64 n], u.oneCell' = true := by
    intro u hu
    simp at hu
    subst hu
    rfl
  have hlv : (intsV l).length = l.length := intsV_len l
  obtain ⟨v', w', hr, h3, h4, _⟩ := run_append_own (P := Try.prog) (wr.alloc (.cells #[.int .i64 n] 3)) A 25 o.type 3 i0 (.int .i64 0) 1 8 Try.underlying25 hi hz0 hz1 hz2 rfl (by omega) v l.length (intsV l) h1a ⟨wr.heap.size, 0, none⟩ 1 1 [.int .i64 n] rfl hnew hone (by unfold maxLen; omega) (by omega) (by simp; omega)
  have hloc : ∀ g, v'.ownBlock = some g → v.ownBlock = some g ∨ wr.heap.size ≤ g := by
    rcases h1.2 with ⟨rfl, he⟩ | ⟨g, cap, cur, rfl, hAg, hg, hn, hc, hsz, ht⟩
    · have hr2 := run_append_nil (P := Try.prog) (wr.alloc (.cells #[.int .i64 n] 3)) 25 o.type 3 i0 (.int .i64 0) Try.underlying25 hi hz0 ⟨wr.heap.size, 0, none⟩ 1 1 [.int .i64 n] (by rw [hz1]; rfl) hnew (by omega) (by omega) (by rw [hz2]; omega)
      rw [hr] at hr2
      injection hr2 with e1 e2
      subst e1
      intro g' hg'
      right
      have : (wr.alloc (.cells #[.int .i64 n] 3)).heap.size = g' := by simpa [Value.ownBlock] using hg'
      simp at this
      omega
    · have hga : (wr.alloc (.cells #[.int .i64 n] 3)).heap[g]? = some (.cells cur 3 (0, 0)) := by
        rw [(MapKept.heap_alloc wr _).2 g (Array.getElem?_eq_some_iff.1 hg).1]; exact hg
      by_cases hroom : l.length + 1 ≤ cap
      · have hr2 := run_append_room (P := Try.prog) (wr.alloc (.cells #[.int .i64 n] 3)) 25 o.type 3 i0 Try.underlying25 hi g l.length cap cur hga ⟨wr.heap.size, 0, none⟩ 1 1 [.int .i64 n] (by rw [hz1]; rfl) hnew hone hroom (by rw [hz1]; simp; omega)
        rw [hr] at hr2
        injection hr2 with e1 e2
        subst e1
        intro g' hg'
        exact Or.inl hg'
      · have hr2 := run_append_grow (P := Try.prog) (wr.alloc (.cells #[.int .i64 n] 3)) 25 o.type 3 i0 (.int .i64 0) Try.underlying25 hi hz0 ⟨g, 0, none⟩ l.length cap (intsV l) (by rw [hz1, hlv]; omega) (h1a.cells (g := g) rfl) ⟨wr.heap.size, 0, none⟩ 1 1 [.int .i64 n] (by rw [hz1]; rfl) hnew (by omega) (by omega) (growslice_fits (by omega) (by rw [hz2]; omega))
        rw [hr] at hr2
        injection hr2 with e1 e2
        subst e1
        intro g' hg'
        right
        have : (wr.alloc (.cells #[.int .i64 n] 3)).heap.size = g' := by simpa [Value.ownBlock] using hg'
        simp at this
        omega
  refine Lib.wpList_append_run _ hgd s x 25 25 ho _ _ hs hx v' w' hr ?_
  refine h v' w' ⟨?_, fun g hgg => (h3.lt g hgg).2⟩ ⟨h4.os, h4.tape, h4.output, by have := h4.size; simp at this; omega, fun k hk hn => ?_⟩ hloc
  · have e : intsV l ++ [.int .i64 n] = intsV (l ++ [n]) := by simp [intsV]
    rw [e] at h3
    rw [List.length_append]
    exact h3
  · rw [h4.block k (by simp; omega) hn]
    exact (MapKept.heap_alloc wr _).2 k hk
end Go.Proofs.Ytbmghddmilgngaa
namespace Go.Proofs.Ytbmghddmilgngaa
open Go.RowKit

/-- A row that does not lie where the row o lies. -/
def CurR (w : World) (o x : Value) (l : List Int) : Prop :=
  ∃ b off cap, x = .slice (some ⟨b, off, none⟩) l.length cap ∧ b < w.heap.size ∧ (∀ g, o.ownBlock = some g → g ≠ b) ∧ ∀ j, j < l.length → w.cell? ⟨b, off + j, none⟩ = some (.int .i64 (l.getD j 0))
theorem CurR.rowB {w : World} {o x : Value} {l : List Int} (h : CurR w o x l) : RowB w.heap.size w x l := by
  obtain ⟨b, off, cap, h1, h2, _, h3⟩ := h
  refine Or.inr ⟨b, off, cap, h1, h2, fun j hj => ?_⟩
  rw [h3 j hj]; simp [List.getD, hj]
theorem CurR.of {B : Nat} {w : World} {o x : Value} {l : List Int} (h : RowB B w x l) (h0 : 0 < l.length) (hB : B ≤ w.heap.size) (ho : ∀ g, o.ownBlock = some g → B ≤ g) : CurR w o x l := by
  rcases h with ⟨h1, _⟩ | ⟨b, off, cap, h1, h2, h3⟩
  · subst h1; simp at h0
  · exact ⟨b, off, cap, h1, by omega, fun g hg => by have := ho g hg; omega, fun j hj => by rw [h3 j hj]; simp [List.getD, hj]⟩
/-- The row was made behind the row o. -/
theorem CurR.new {A B : Nat} {w : World} {o x : Value} {l : List Int} (h : RowI A B w x l) (h0 : 0 < l.length) (hB : B ≤ w.heap.size) (ho : ∀ g, o.ownBlock = some g → g < A) : CurR w o x l := by
  have hr := h.rowB
  rcases hr with ⟨h1, _⟩ | ⟨b, off, cap, h1, h2, h3⟩
  · subst h1; simp at h0
  · have hb : x.ownBlock = some b := by rw [h1]; rfl
    have hA := (h.1.lt b hb).1
    exact ⟨b, off, cap, h1, by omega, fun g hg => by have := ho g hg; omega, fun j hj => by rw [h3 j hj]; simp [List.getD, hj]⟩
theorem CurR.grown {w w' : World} {o o' x : Value} {l : List Int} (h : CurR w o x l) (hg : w.grownBy w' o.ownBlock) (hl : ∀ g, o'.ownBlock = some g → o.ownBlock = some g ∨ w.heap.size ≤ g) : CurR w' o' x l := by
  obtain ⟨b, off, cap, h1, h2, h3, h4⟩ := h
  refine ⟨b, off, cap, h1, Nat.lt_of_lt_of_le h2 hg.size, fun g hg' => ?_, fun j hj => ?_⟩
  · rcases hl g hg' with h | h
    · exact h3 g h
    · omega
  · rw [← h4 j hj]
    have hbk : w'.heap[b]? = w.heap[b]? := hg.block b h2 (fun e => h3 b e.symm rfl)
    unfold World.cell?
    simp only
    rw [hbk]
theorem CurR.step {w w' : World} {o x : Value} {l : List Int} (h : CurR w o x l) (hb : Below w.heap.size w w') : CurR w' o x l := by
  obtain ⟨b, off, cap, h1, h2, h3, h4⟩ := h
  exact ⟨b, off, cap, h1, Nat.lt_of_lt_of_le h2 hb.size, h3, fun j hj => (hb.cell (p := ⟨b, off + j, none⟩) h2).trans (h4 j hj)⟩
theorem CurR.slice {w : World} {o x : Value} {l : List Int} (h : CurR w o x l) : ∃ a cap, x = .slice a l.length cap := h.rowB.slice
end Go.Proofs.Ytbmghddmilgngaa
namespace Go.Proofs.Ytbmghddmilgngaa
open Go.RowKit

theorem RowB.getD {B : Nat} {w : World} {a : Option Addr} {n cap : Nat} {l : List Int} (h : RowB B w (.slice a n cap) l) {j : Nat} (hj : j < n) :
    ∃ b off, a = some ⟨b, off, none⟩ ∧ b < B ∧ w.cell? ⟨b, off + j, none⟩ = some (.int .i64 (l.getD j 0)) := by
  obtain ⟨b, off, hl, h1, h2, h3⟩ := h.get hj
  exact ⟨b, off, h1, h2, by rw [h3]; simp [List.getD, hl]⟩
end Go.Proofs.Ytbmghddmilgngaa
namespace Go.Proofs.Ytbmghddmilgngaa
open Go.RowKit

theorem RowB.drawn1 {B : Nat} {w : World} {v : Value} {l : List Int} (h : RowB B w v l) (q : Nat) : RowB B (w.drewN q) v l := h.drewN q
set_option maxHeartbeats 2000000 in
set_option maxRecDepth 100000 in
theorem isws_any (B B' : Nat) (v v' : Value) (m : List (List Int)) (l : List Int) (w : World) (h : MatB B w v m) (h' : RowB B' w v' l) (hf : RowsFit m) (hl : l.length ≤ maxLen) :
    Calls Try.prog 23 #[v, v'] w fun e w' => e = .returned (.bool (wordB m l)) ∧ ∃ q, w' = w.drewN q := by
  obtain ⟨a, cap, rfl⟩ := h.slice
  obtain ⟨a', cap', rfl⟩ := h'.slice
  have HISC := Lib.hid (fun c (hc : isB m = c) q => isc_q B _ m c hc w h hf q)
  have HL := Lib.hid h'
  have hml := hf.1
  unfold maxLen at hl hml
  clear h h' hf
  have HNO := Lib.hid (fun (k : Nat) (hk : k < l.length) (h : ¬ (0 ≤ l.getD k 0 ∧ l.getD k 0 ≤ (m.length : Int) - 1)) => wordB_no (isW_bad (c := m) hk h))
  have HEND := Lib.hid (fun (h : LetTo m.length l l.length) => show wordB m l = (isB m && decide (l.length ≤ 15)) from by
    by_cases hI : IsC m
    · by_cases h15 : l.length ≤ 15
      · rw [wordB_yes ⟨h, hI, h15⟩, isB_yes hI, decide_eq_true h15]; rfl
      · rw [wordB_no (fun h' => h15 h'.2.2), decide_eq_false h15, Bool.and_false]
    · rw [wordB_no (fun h' => hI h'.2.1), isB_no hI, Bool.false_and])
  generalize wordB m l = R at *
  generalize isB m = ib at *
  generalize m.length = n at *
  generalize hln : l.length = L at *
  have HLN := Lib.hid hln; clear hln
  go_enter Try.func23, Try.ntmps23
  go_wp2_with fail
  go_loopw [5] (fun i wr => ∃ (k q : Nat), k ≤ L ∧ i = .int .i64 k ∧ wr = w.drewN q ∧ Hid (LetTo n l k)) (fun i _ => L - (intOf i).toNat)
  case atStart => exact ⟨0, 0, Nat.zero_le _, rfl, rfl, Lib.hid (letTo_zero _ _)⟩
  case round =>
    obtain ⟨k, q, hk, rfl, rfl, hs⟩ := hrel
    by_cases hlt : k < L
    · obtain ⟨b, off, rfl, hb, hc⟩ := HL.out.getD hlt
      by_cases hin : 0 ≤ l.getD k 0 ∧ l.getD k 0 ≤ (n : Int) - 1
      · have HST := Lib.hid (letTo_step hs.out hin)
        have HIN := Lib.hid (inB_yes hin)
        clear hin hs
        generalize l.getD k 0 = x at *
        go_wp2_with fail
        refine (l1in_q _ _ _ true HIN.out _ _).mono ?_
        rintro e w' ⟨rfl, nq, rfl⟩
        go_wp2_with fail
        exact ⟨⟨k + 1, q + nq, by omega, by go_num, rfl, HST⟩, by simp [intOf]; omega⟩
      · have HBAD := Lib.hid (HNO.out k hlt hin)
        have HIN := Lib.hid (inB_no hin)
        clear hin hs
        generalize l.getD k 0 = x at *
        go_wp2_with fail
        refine (l1in_q _ _ _ false HIN.out _ _).mono ?_
        rintro e w' ⟨rfl, nq, rfl⟩
        go_wp2_with fail
        go_ret
        exact ⟨ret_boolean HBAD.out.symm, q + nq, rfl⟩
    · obtain rfl : k = L := by omega
      have HE := Lib.hid (HEND.out hs.out)
      have HLK : decide ((k : Int) ≤ 15) = decide (k ≤ 15) := decide_eq_decide.2 (by omega)
      clear HEND HNO hs
      go_wp2_with fail
      refine (HISC.out _ rfl q).mono ?_
      rintro e w' ⟨rfl, nq, rfl⟩
      cases ib
      all_goals
        go_wp2_with fail
        go_ret
        exact ⟨ret_boolean (by rw [HE.out]; first | rfl | (rw [HLK, Bool.true_and])), q + nq, rfl⟩

set_option maxHeartbeats 2000000 in
set_option maxRecDepth 100000 in
theorem cats_any (B B' : Nat) (v v' : Value) (l l' : List Int) (w : World) (h : RowB B w v l) (h' : RowB B' w v' l') (hB : B ≤ w.heap.size) (hB' : B' ≤ w.heap.size) (hl : l.length ≤ 1048576) (hl' : l'.length ≤ 1048576) :
    Calls Try.prog 18 #[v, v'] w (MakesS w (l ++ l')) := by
  obtain ⟨a, cap, rfl⟩ := h.slice
  obtain ⟨a', cap', rfl⟩ := h'.slice
  have hb0 : Below w.heap.size w (w.alloc (.cells #[] 3)) := (Below.refl _ _).alloc (Nat.le_refl _) _
  have HL := Lib.hid (h.below hb0 hB)
  have HR := Lib.hid h'
  have hs0 : w.heap.size ≤ (w.alloc (.cells #[] 3)).heap.size := by simp
  have h1 : ([] : List Int).length + l.length ≤ 4194304 := by simp; omega
  have h2 : l.length + l'.length ≤ 4194304 := by omega
  have H1 := Lib.hid h1; have H2 := Lib.hid h2
  clear h h' hb0 h1 h2
  generalize hln : l.length = n at *
  generalize hln' : l'.length = n' at *
  have HLN := Lib.hid hln; have HLN' := Lib.hid hln'
  clear hln hln'
  go_enter Try.func18, Try.ntmps18
  go_wp2_with (at_builtin; go_must (refine append_intsA (row_empty w) hs0 HL.out (by rw [HLN.out]; exact H1.out) rfl rfl rfl rfl ?_))
  intro v3 w3 hr3 hb3 hz3
  have hr3 : RowI w.heap.size w3.heap.size w3 v3 l := by simpa using hr3
  have hb3' := hb3 w w.heap.size (Nat.le_refl _) ((Below.refl _ _).alloc (Nat.le_refl _) _)
  have HB3 := Lib.hid hb3'
  have hs3 := hb3'.size
  have HR3 := Lib.hid hr3
  have HR' := Lib.hid (HR.out.below hb3' hB')
  clear hb3 hz3 hr3 hb3'
  go_wp2_with (at_builtin; go_must (refine append_intsA HR3.out hs3 HR'.out (by rw [HLN.out, HLN'.out]; exact H2.out) rfl rfl rfl rfl ?_))
  intro v4 w4 hr4 hb4 hz4
  have HR4 := Lib.hid hr4
  have HB4 := Lib.hid (hb4 w w.heap.size (Nat.le_refl _) HB3.out)
  clear hb4 hz4 hr4
  go_wp2_with fail
  go_ret
  exact ⟨_, rfl, ⟨HR4.out, Nat.le_refl _⟩, HB4.out⟩

theorem rev_take {l : List Int} {k : Nat} (h : k < l.length) : (l.drop (k + 1)).reverse ++ [l.getD k 0] = (l.drop k).reverse := by
  rw [List.drop_eq_getElem_cons h, List.reverse_cons]; simp [List.getD, h]
end Go.Proofs.Ytbmghddmilgngaa
