/-
  Rows of ints appended to a row of the call's own, empty or not.
-/
import Derived.Test.YtlbgblkoddlhnabGrow2
import Derived.Laws.AppendOwn
namespace Go.Proofs.Ytlbgblkoddlhnab
open Go.RowKit

/-- Nothing is appended to a row of the call's own, from a slice without address. -/
theorem append_nothing {P : Program} {w : World} (base : Nat) (t ty e : TypeId) (i : TypeInfo) (size : Nat) (ht : P.underlying t = some (.slice e)) (hi : P.info? e = some i)
    (v : Value) (n c : Nat) (xs : List Value) (hown : w.ownsRow base e size v n xs) : (Builtin.append_ #[t, t] ty #[v, .slice none 0 c]).run P w = .ok v w := by
  obtain ⟨_, h | h⟩ := hown
  · obtain ⟨rfl, _⟩ := h
    simp [Builtin.append_, run_underlying ht, sizeOf, typeInfo, hi, Builtin.lenOf, Builtin.firstCells]
  · obtain ⟨g, cap, cur, rfl, _, _, hcap, _⟩ := h
    have hroom : ¬ cap < n := by omega
    simp [Builtin.append_, run_underlying ht, sizeOf, typeInfo, hi, Builtin.lenOf, Builtin.firstCells, hroom, storeCells]
theorem wp_intsA {o : Oper} {a : Act} {K : Act → World → Prop} {Q : Exit → Act → World → Prop} {s x : Operand} {A B : Nat} {v xv : Value} {l l2 : List Int} {wr : World}
    (hM : RowI A wr.heap.size wr v l) (hA : A ≤ wr.heap.size) (hr : RowB B wr xv l2)
    (ho : o.op = .call { callee := .builtin .append, args := #[s, x], argTypes := #[23, 23] }) (hs : a.eval s = v) (hx : a.eval x = xv) (hlen : l.length + l2.length ≤ 4194304)
    (h : AfterRow A wr (l ++ l2) fun v' w' => K (a.put o.dst v') w') : o.wp Try.prog a wr K Q := by
  by_cases h0 : l2 = []
  · subst h0
    obtain ⟨h1, h2⟩ := hM
    obtain ⟨i0, hi, hz0, hz1, hz2⟩ := info_parts Try.infoInt
    have hsl : ∃ p c, xv = .slice p 0 c := by
      rcases hr with ⟨_, p, c, h⟩ | ⟨b, off, c, h, _⟩
      · exact ⟨p, c, h⟩
      · exact ⟨_, c, h⟩
    obtain ⟨p, c, rfl⟩ := hsl
    cases p with
    | none =>
      have hrun := append_nothing (P := Try.prog) A 23 o.type 3 i0 1 Try.underlying23 hi v l.length c (intsV l) h1
      unfold Oper.wp
      simp [execOp, ho, resolve, invoke, builtin, hs, hx, hrun, Result.andThen]
      exact h v wr (by rw [List.append_nil]; exact ⟨h1, h2⟩) (fun W C _ hb => hb) (Nat.le_refl _)
    | some p =>
      refine wp_append_own wr s x 23 ho A 3 i0 (.int .i64 0) 1 8 Try.underlying23 hi hz0 hz1 hz2 rfl (by omega) v l.length (intsV l) hs h1 p 0 c [] hx rfl (fun j u hu => by simp at hu) (fun u hu => by simp at hu) (by simp at hlen; unfold maxLen; omega) (by simp at hlen; omega) hA ?_
      intro v' w' ho' hg _
      refine h v' w' ⟨?_, fun g hgg => (ho'.lt g hgg).2⟩ (fun W C hC hb => ?_) hg.size
      · simpa using ho'
      · exact hb.grown hg (by omega) (fun k hk => by have := (h1.lt k hk).1; omega)
  · exact wp_ints hM hA hr h0 ho hs hx hlen h
/-- 'append(row, xs...)', xs empty or not. -/
theorem append_intsA {ops : Array Oper} {rest : List Oper} {o : Oper} {a : Act} {Q : Exit → Act → World → Prop} {s x : Operand} {A B : Nat} {v xv : Value} {l l2 : List Int} {wr : World}
    (hM : RowI A wr.heap.size wr v l) (hA : A ≤ wr.heap.size) (hr : RowB B wr xv l2) (hlen : l.length + l2.length ≤ 4194304) (hgd : o.guard = none)
    (ho : o.op = .call { callee := .builtin .append, args := #[s, x], argTypes := #[23, 23] }) (hs : a.eval s = v) (hx : a.eval x = xv)
    (h : AfterRow A wr (l ++ l2) fun v' w' => wpList Try.prog ops Q rest (a.put o.dst v') w') : wpList Try.prog ops Q (o :: rest) a wr :=
  wpList_plain hgd fun _ hK => wp_intsA hM hA hr ho hs hx hlen fun v' w' h2 h3 h4 => hK _ _ (h v' w' h2 h3 h4)
end Go.Proofs.Ytlbgblkoddlhnab
