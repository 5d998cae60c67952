/-
  Rows of ints under the program's type word: appends, and the library's Clone, Reverse, Sort and Compact at it.
-/
import Derived.Lib.RowBridge
import Derived.Lib.SlKeysI
import Derived.Lib.SliceRun
import Derived.Laws.AppendOwn
import Derived.Test.YtbmghddmilgngaaLc15
import Derived.Test.YtbmghddmilgngaaLc13
import Derived.Test.YtbmghddmilgngaaLc23
namespace Go.Proofs.Ytbmghddmilgngaa
open Go.RowKit

theorem RowI.nilW (A B : Nat) (w : World) : RowI A B w (.slice none 0 0) [] := ⟨World.ownsRow_nil _ _ _ _, fun g h => by simp [Value.ownBlock] at h⟩
/-- 'append(row, xs...)' at whatever slice type over ints, xs empty or not. -/
theorem wp_intsT {o : Oper} {a : Act} {K : Act → World → Prop} {Q : Exit → Act → World → Prop} {s x : Operand} {A B : Nat} {v xv : Value} {l l2 : List Int} {wr : World} (t : TypeId) (ht : Try.prog.underlying t = some (.slice 3))
    (hM : RowI A wr.heap.size wr v l) (hA : A ≤ wr.heap.size) (hr : RowB B wr xv l2)
    (ho : o.op = .call { callee := .builtin .append, args := #[s, x], argTypes := #[t, t] }) (hs : a.eval s = v) (hx : a.eval x = xv) (hlen : l.length + l2.length ≤ 4194304)
    (h : AfterRow A wr (l ++ l2) fun v' w' => K (a.put o.dst v') w') : o.wp Try.prog a wr K Q := by
  obtain ⟨h1, h2⟩ := hM
  obtain ⟨i0, hi, hz0, hz1, hz2⟩ := info_parts Try.infoInt
  by_cases h0 : l2 = []
  · subst h0
    have hsl : ∃ p c, xv = .slice p 0 c := by
      rcases hr with ⟨_, p, c, h⟩ | ⟨b, off, c, h, _⟩
      · exact ⟨p, c, h⟩
      · exact ⟨_, c, h⟩
    obtain ⟨p, c, rfl⟩ := hsl
    cases p with
    | none =>
      have hrun := append_nothing (P := Try.prog) A t o.type 3 i0 1 ht hi v l.length c (intsV l) h1
      unfold Oper.wp
      simp [execOp, ho, resolve, invoke, builtin, hs, hx, hrun, Result.andThen]
      exact h v wr (by rw [List.append_nil]; exact ⟨h1, h2⟩) (fun W C _ hb => hb) (Nat.le_refl _)
    | some p =>
      refine wp_append_own wr s x t ho A 3 i0 (.int .i64 0) 1 8 ht hi hz0 hz1 hz2 rfl (by omega) v l.length (intsV l) hs h1 p 0 c [] hx rfl (fun j u hu => by simp at hu) (fun u hu => by simp at hu) (by simp at hlen; unfold maxLen; omega) (by simp at hlen; omega) hA ?_
      intro v' w' ho' hg _
      refine h v' w' ⟨?_, fun g hgg => (ho'.lt g hgg).2⟩ (fun W C hC hb => ?_) hg.size
      · simpa using ho'
      · exact hb.grown hg (by omega) (fun k hk => by have := (h1.lt k hk).1; omega)
  · rcases hr with ⟨h', _⟩ | ⟨b, off, cap, rfl, hb, hc⟩
    · exact absurd h' h0
    have hl2 : (intsV l2).length = l2.length * 1 := by rw [intsV_len]; omega
    refine wp_append_own wr s x t ho A 3 i0 (.int .i64 0) 1 8 ht hi hz0 hz1 hz2 rfl (by omega) v l.length (intsV l) hs h1 ⟨b, off, none⟩ l2.length cap (intsV l2) hx hl2 (fun j u hu => ?_) (fun u hu => ?_) (by unfold maxLen; omega) (by omega) hA ?_
    · have hj : j < l2.length := by have := (List.getElem?_eq_some_iff.1 hu).1; rwa [intsV_len] at this
      rw [Addr.add_lit, hc j hj, ← hu]
      simp [intsV, hj]
    · obtain ⟨n, _, rfl⟩ := List.mem_map.1 hu
      rfl
    · intro v' w' ho' hg _
      refine h v' w' ⟨?_, fun g hgg => (ho'.lt g hgg).2⟩ (fun W C hC hb => ?_) hg.size
      · have e : intsV l ++ intsV l2 = intsV (l ++ l2) := by simp [intsV]
        rw [e] at ho'
        rw [List.length_append]
        exact ho'
      · exact hb.grown hg (by omega) (fun k hk => by have := (h1.lt k hk).1; omega)
theorem append_intsT {ops : Array Oper} {rest : List Oper} {o : Oper} {a : Act} {Q : Exit → Act → World → Prop} {s x : Operand} {A B : Nat} {v xv : Value} {l l2 : List Int} {wr : World} (t : TypeId) (ht : Try.prog.underlying t = some (.slice 3))
    (hM : RowI A wr.heap.size wr v l) (hA : A ≤ wr.heap.size) (hr : RowB B wr xv l2) (hlen : l.length + l2.length ≤ 4194304) (hgd : o.guard = none)
    (ho : o.op = .call { callee := .builtin .append, args := #[s, x], argTypes := #[t, t] }) (hs : a.eval s = v) (hx : a.eval x = xv)
    (h : AfterRow A wr (l ++ l2) fun v' w' => wpList Try.prog ops Q rest (a.put o.dst v') w') : wpList Try.prog ops Q (o :: rest) a wr :=
  wpList_plain hgd fun _ hK => wp_intsT t ht hM hA hr ho hs hx hlen fun v' w' h2 h3 h4 => hK _ _ (h v' w' h2 h3 h4)

set_option maxHeartbeats 1000000 in
set_option maxRecDepth 100000 in
theorem clone_any (B : Nat) (v : Value) (l : List Int) (w : World) (h : RowB B w v l) (hB : B ≤ w.heap.size) (hl : l.length ≤ 1048576) :
    Calls Try.prog 52 #[v] w (MakesS w l) := by
  have qe : ∀ (w : World) (a : Option Addr) (n c n' c' : Nat), (binOp .eql 55 (.slice a n c) (.slice none n' c')).run Try.prog w = .ok (.bool a.isNone) w := fun w a n c n' c' => Lib.run_eql_slice_nil w _ _ a n c n' c' Try.underlying55
  obtain ⟨a, cap, rfl⟩ := h.slice
  cases a with
  | none =>
    have hl0 : l = [] := by
      rcases h with ⟨h0, _⟩ | ⟨b, off, c, h1, _⟩
      · exact h0
      · simp at h1
    subst hl0
    go_enter Try.func52, Try.ntmps52
    go_wp2_with fail
    go_ret
    exact ⟨_, rfl, ⟨RowI.nilW _ _ _, Nat.le_refl _⟩, Below.refl _ _⟩
  | some p =>
    have hb0 : Below w.heap.size w (w.alloc (.cells #[] 3)) := (Below.refl _ _).alloc (Nat.le_refl _) _
    have HL := Lib.hid (h.below hb0 hB)
    have hs0 : w.heap.size ≤ (w.alloc (.cells #[] 3)).heap.size := by simp
    have h1 : ([] : List Int).length + l.length ≤ 4194304 := by simp; omega
    have H1 := Lib.hid h1
    clear h hb0 h1
    generalize hln : l.length = n at *
    have HLN := Lib.hid hln; clear hln
    go_enter Try.func52, Try.ntmps52
    go_wp2_with (at_builtin; go_must (refine append_intsT 55 Try.underlying55 (row_empty w) hs0 HL.out (by rw [HLN.out]; exact H1.out) rfl rfl rfl rfl ?_))
    intro v3 w3 hr3 hb3 hz3
    have hr3 : RowI w.heap.size w3.heap.size w3 v3 l := by simpa using hr3
    have HR3 := Lib.hid hr3
    have HB3 := Lib.hid (hb3 w w.heap.size (Nat.le_refl _) ((Below.refl _ _).alloc (Nat.le_refl _) _))
    clear hb3 hz3 hr3
    go_wp2_with fail
    go_ret
    exact ⟨_, rfl, ⟨HR3.out, Nat.le_refl _⟩, HB3.out⟩

/-! ### A row whose cells the library has written anew -/
theorem row_put {A : Nat} {w : World} {g cap n : Nat} {os : Array Obj} {l ts : List Int} (h : RowI A w.heap.size w (.slice (some ⟨g, 0, none⟩) l.length cap) l) (hlt : ts.length = l.length) :
    Go.Sort.Holds (Value.int .i64) w g 0 l.toArray ∧ g < w.heap.size ∧ l.length ≤ cap ∧
    RowI A (Go.Sort.grow (Go.Sort.putRow (Value.int .i64) (Go.Sort.ahead w n) g 0 ts.toArray) os).heap.size (Go.Sort.grow (Go.Sort.putRow (Value.int .i64) (Go.Sort.ahead w n) g 0 ts.toArray) os) (.slice (some ⟨g, 0, none⟩) l.length cap) ts ∧
    w.grownBy (Go.Sort.grow (Go.Sort.putRow (Value.int .i64) (Go.Sort.ahead w n) g 0 ts.toArray) os) (some g) := by
  rcases h.1.2 with ⟨h', _⟩ | ⟨g', cap', cur, h', hAg, hg, hn, hc, hsz, htk⟩
  · simp at h'
  · simp only [Value.slice.injEq, Option.some.injEq, Addr.mk.injEq, and_true, true_and] at h'
    obtain ⟨rfl, rfl⟩ := h'
    rw [Nat.mul_one] at htk
    have hg2 : w.grownBy (Go.Sort.grow (Go.Sort.putRow (Value.int .i64) (Go.Sort.ahead w n) g 0 ts.toArray) os) (some g) := grownBy_sorted_i (w := w) (g := g) (n := n) (os := os) ts.toArray
    refine ⟨holds_of_block_i hg htk, (Array.getElem?_eq_some_iff.1 hg).1, hn, ⟨?_, fun g' hg' => ?_⟩, hg2⟩
    · have h3 := ownsRow_sorted_i (n := n) (os := os) (ts := ts) (ss := l) (cap := cap) hlt hAg hg hn hc (by omega)
      rw [hlt]
      exact h3
    · have := h.2 g' hg'
      exact Nat.lt_of_lt_of_le this hg2.size
theorem grow_none (w : World) : Go.Sort.grow w #[] = w := by simp [Go.Sort.grow]
/-- The head of a row is a row. -/
theorem RowI.head {A B : Nat} {w : World} {g n cap : Nat} {l r : List Int} (h : RowI A B w (.slice (some ⟨g, 0, none⟩) n cap) (l ++ r)) : RowI A B w (.slice (some ⟨g, 0, none⟩) l.length cap) l := by
  rcases h.1.2 with ⟨h', _⟩ | ⟨g', cap', cur, h', hAg, hg, hn, hc, hsz, htk⟩
  · simp at h'
  · simp only [Value.slice.injEq, Option.some.injEq, Addr.mk.injEq, and_true] at h'
    obtain ⟨rfl, rfl, rfl⟩ := h'
    refine ⟨⟨by rw [intsV_len]; omega, Or.inr ⟨g, cap, cur, rfl, hAg, hg, by simp at hn; omega, hc, hsz, ?_⟩⟩, h.2⟩
    have e : cur.toList.take (l.length * 1) = (cur.toList.take ((l ++ r).length * 1)).take (l.length * 1) := by
      rw [List.take_take]; congr 1; simp
    rw [e, htk]
    simp [intsV]
theorem RowI.addr {A B : Nat} {w : World} {v : Value} {l : List Int} (h : RowI A B w v l) (h0 : l ≠ []) : ∃ g cap, v = .slice (some ⟨g, 0, none⟩) l.length cap := by
  rcases h.1.2 with ⟨_, h'⟩ | ⟨g, cap, _, h', _⟩
  · exact absurd (List.eq_nil_of_length_eq_zero h') h0
  · exact ⟨g, cap, h'⟩

end Go.Proofs.Ytbmghddmilgngaa
