/-
  A row of a matrix of the call's own is replaced by another row: what the matrix reads as afterwards.
-/
import Derived.Maps.AppendAt
import Derived.Test.YtfjeghalkmkgoaaGreatDoorFW13
namespace Go.Proofs.YtfjeghalkmkgoaaGreatDoor
open Go.RowKit

theorem RowI.past {A B g : Nat} {w w' : World} {v : Value} {l : List Int} {cur : Array Value} (h : RowI A B w v l) (hg : w.heap[g]? = some (.cells cur 25 (0, 0))) (hgr : w.grownBy w' (some g)) : RowI A B w' v l := by
  refine ⟨⟨h.1.1, ?_⟩, h.2⟩
  rcases h.1.2 with h' | ⟨r, cap, rcur, rfl, hA, hr, hn⟩
  · exact Or.inl h'
  · refine Or.inr ⟨r, cap, rcur, rfl, hA, ?_, hn⟩
    have hlt : r < w.heap.size := (Array.getElem?_eq_some_iff.mp hr).1
    have hne : some r ≠ some g := by
      intro e
      injection e with e
      subst e
      rw [hr] at hg
      injection hg with hg
      injection hg with _ ht _
      exact absurd ht (by decide)
    rw [hgr.block r hlt hne]
    exact hr

/-- A header is replaced by the header of another row of the call's own, in a block of its own. -/
theorem MatI.hdr {A B C : Nat} {w : World} {a : Option Addr} {n cap : Nat} {m : List (List Int)} (h : MatI A B w (.slice a n cap) m) {j : Nat} (hj : j < m.length) {rv : Value} {l : List Int}
    (hr : RowI B C w rv l) (hAB : A ≤ B) (hBC : B ≤ C) :
    ∃ g, a = some ⟨g, 0, none⟩ ∧ w.frozen? ⟨g, j, none⟩ = false ∧ A ≤ g ∧ g < B ∧ w.grownBy (w.setCell ⟨g, j, none⟩ rv) (some g) ∧ MatI A C (w.setCell ⟨g, j, none⟩ rv) (.slice a n cap) (m.set j l) := by
  obtain ⟨hs, h1, h2, h3, h4⟩ := h
  have hlen : hs.length = m.length := by have := h1.1; omega
  rcases h1.2 with ⟨_, h0⟩ | ⟨g, cap', cur, hval, hA, hg, _⟩
  · omega
  have ha : a = some ⟨g, 0, none⟩ := by injection hval
  have hn : n = m.length := by injection hval
  subst ha
  subst hn
  obtain ⟨ho, hgr⟩ := h1.stored j rv
  have hgB := h2 g rfl
  refine ⟨g, rfl, h1.frozenAt j, hA, hgB, hgr, hs.set j rv, by rw [List.length_set]; exact ho, fun g' hg' => Nat.lt_of_lt_of_le (h2 g' hg') hBC, fun i hi => ?_, ?_⟩
  · rw [List.length_set] at hi
    by_cases he : i = j
    · subst he
      exact ⟨rv, by rw [List.getElem?_set_self (by omega)], by rw [List.getElem_set_self]; exact (hr.past hg hgr).mono hAB (Nat.le_refl _)⟩
    · obtain ⟨hv, h5, h6⟩ := h3 i hi
      exact ⟨hv, by rw [List.getElem?_set_ne (fun e => he e.symm)]; exact h5, by rw [List.getElem_set_ne (fun e => he e.symm)]; exact (h6.past hg hgr).mono (Nat.le_refl _) hBC⟩
  · have hold : ∀ (k : Nat) (y : Value), hs[k]? = some y → ∀ q, y.ownBlock = some q → q < B := by
      intro k y hy q hq
      have hk : k < m.length := by
        have := (List.getElem?_eq_some_iff.mp hy).1
        omega
      obtain ⟨hv, h5, h6⟩ := h3 k hk
      rw [h5] at hy
      injection hy with hy
      subst hy
      exact h6.2 q hq
    have hnew : ∀ q, rv.ownBlock = some q → B ≤ q := fun q hq => (hr.1.lt q hq).1
    intro i k x y hik hx hy
    by_cases hi : i = j
    · subst hi
      rw [List.getElem?_set_self (by omega)] at hx
      injection hx with hx
      subst hx
      rw [List.getElem?_set_ne hik] at hy
      cases hq : rv.ownBlock with
      | none => exact Or.inl rfl
      | some q =>
        refine Or.inr fun e => ?_
        have h5 := hnew q hq
        have h6 := hold k y hy q e.symm
        omega
    · rw [List.getElem?_set_ne (fun e => hi e.symm)] at hx
      by_cases hk : k = j
      · subst hk
        rw [List.getElem?_set_self (by omega)] at hy
        injection hy with hy
        subst hy
        cases hq : x.ownBlock with
        | none => exact Or.inl rfl
        | some q =>
          refine Or.inr fun e => ?_
          have h5 := hnew q e.symm
          have h6 := hold i x hx q hq
          omega
      · rw [List.getElem?_set_ne (fun e => hk e.symm)] at hy
        exact h4 i k x y hik hx hy

/-- A row without its first number. -/
theorem RowI.tail {A B : Nat} {w : World} {r n cap : Nat} {l : List Int} (h : RowI A B w (.slice (some ⟨r, 0, none⟩) n cap) l) (cap' : Nat) :
    RowB B w (.slice (some ⟨r, 1, none⟩) (n - 1) cap') (l.drop 1) := by
  have hn : n = l.length := by
    obtain ⟨a, c, e⟩ := h.slice
    injection e
  subst hn
  refine Or.inr ⟨r, 1, cap', by simp, h.2 r rfl, fun j hj => ?_⟩
  have hj' : 1 + j < l.length := by rw [List.length_drop] at hj; omega
  rw [h.1.cellAt (1 + j) (by omega)]
  simp [intsV, Nat.add_comm]

/-- A header is replaced by the header of a row that may share its block with the row that was there. -/
theorem MatI.hdrB {A B C : Nat} {w : World} {a : Option Addr} {n cap : Nat} {m : List (List Int)} (h : MatI A B w (.slice a n cap) m) {j : Nat} (hj : j < m.length) {rv : Value} {l : List Int} (hBC : B ≤ C)
    (hr : ∀ g cur w' w'', w.heap[g]? = some (.cells cur 25 (0, 0)) → w.grownBy w' (some g) → SameIn A C w' w'' → RowB C w'' rv l) :
    ∃ g, a = some ⟨g, 0, none⟩ ∧ w.frozen? ⟨g, j, none⟩ = false ∧ A ≤ g ∧ g < B ∧ w.grownBy (w.setCell ⟨g, j, none⟩ rv) (some g) ∧
      ∀ w'', SameIn A C (w.setCell ⟨g, j, none⟩ rv) w'' → MatB C w'' (.slice a n cap) (m.set j l) := by
  obtain ⟨hs, h1, h2, h3, h4⟩ := h
  have hlen : hs.length = m.length := by have := h1.1; omega
  rcases h1.2 with ⟨_, h0⟩ | ⟨g, cap', cur, hval, hA, hg, _⟩
  · omega
  have ha : a = some ⟨g, 0, none⟩ := by injection hval
  have hn : n = m.length := by injection hval
  subst ha
  subst hn
  obtain ⟨ho, hgr⟩ := h1.stored j rv
  have hgB := h2 g rfl
  refine ⟨g, rfl, h1.frozenAt j, hA, hgB, hgr, fun w'' hsm => Or.inr ⟨g, 0, cap, by rw [List.length_set], Nat.lt_of_lt_of_le hgB hBC, fun i hi => ?_⟩⟩
  rw [List.length_set] at hi
  have ho2 := ownsRow_same ho (fun q hq => Nat.lt_of_lt_of_le (h2 q hq) hBC) hsm
  by_cases he : i = j
  · subst he
    exact ⟨rv, by rw [Nat.zero_add, ho2.cellAt i (by omega), List.getElem?_set_self (by omega)], by rw [List.getElem_set_self]; exact hr g cur _ _ hg hgr hsm⟩
  · obtain ⟨hv, h5, h6⟩ := h3 i hi
    exact ⟨hv, by rw [Nat.zero_add, ho2.cellAt i (by omega), List.getElem?_set_ne (fun e => he e.symm)]; exact h5, by
      rw [List.getElem_set_ne (fun e => he e.symm)]; exact (((h6.past hg hgr).mono (Nat.le_refl _) hBC).same hsm).rowB⟩

/-- The value reads as this matrix, also in every world that keeps the blocks from A on, below B. -/
def OwnK (A B : Nat) (w : World) (v : Value) (m : List (List Int)) : Prop := (∀ w', SameIn A B w w' → MatB B w' v m) ∧ B ≤ w.heap.size
theorem OwnK.mat {A B : Nat} {w : World} {v : Value} {m : List (List Int)} (h : OwnK A B w v m) : MatB B w v m := h.1 w (SameIn.refl _ _ _)
theorem OwnM.ownK {A B : Nat} {w : World} {v : Value} {m : List (List Int)} (h : OwnM A B w v m) : OwnK A B w v m := ⟨fun _ hs => (h.1.same hs).matB, h.2⟩
theorem OwnK.same {A B : Nat} {w w' : World} {v : Value} {m : List (List Int)} (h : OwnK A B w v m) (hs : SameIn A B w w') (hsz : w.heap.size ≤ w'.heap.size) : OwnK A B w' v m :=
  ⟨fun _ h2 => h.1 _ (hs.trans h2), Nat.le_trans h.2 hsz⟩
theorem OwnK.drawn {A D B C : Nat} {cv x : Value} {len : Nat} {w w' : World} {m : List (List Int)} (h : OwnK A D w x m) (hC : C < A) (hd : DrTo B C cv len w w') : OwnK A D w' x m :=
  h.same (fun k h1 h2 => hd.2.block k (Nat.lt_of_lt_of_le h2 h.2) (fun e => by injection e with e; omega)) hd.2.size
theorem OwnK.below {A D : Nat} {x : Value} {w w' : World} {m : List (List Int)} (h : OwnK A D w x m) (hb : Below w.heap.size w w') : OwnK A D w' x m :=
  h.same (SameIn.of_below hb h.2) hb.size

set_option maxRecDepth 100000 in
/-- 'append(s, x...)': all of a row onto a row of the call's own. -/
theorem append_all {ops : Array Oper} {rest : List Oper} {o : Oper} {a : Act} {Q : Exit → Act → World → Prop} {s x : Operand} {A B : Nat} {v : Value} {l l2 : List Int} {W : World} (lb loff n cap : Nat)
    (hM : RowI A W.heap.size W v l) (hA : A ≤ W.heap.size) (hr : RowB B W (.slice (some ⟨lb, loff, none⟩) n cap) l2) (hn : l2.length = n) (hgd : o.guard = none)
    (ho : o.op = .call { callee := .builtin .append, args := #[s, x], argTypes := #[25, 25] }) (hs : a.eval s = v)
    (hx : a.eval x = .slice (some ⟨lb, loff, none⟩) n cap) (hlen : l.length + n ≤ 1048576)
    (h : ∀ v' w', RowI A w'.heap.size w' v' (l ++ l2) → W.grownBy w' v.ownBlock → (v'.ownBlock = v.ownBlock ∨ v'.ownBlock = some W.heap.size) → wpList Tryz.prog ops Q rest (a.put o.dst v') w') :
    wpList Tryz.prog ops Q (o :: rest) a W := by
  obtain ⟨h1, h2⟩ := hM
  obtain ⟨i0, hi, hz0, hz1, hz2⟩ := info_parts Tryz.infoInt
  refine wpList_append_own_at W hgd s x 25 ho A 3 i0 (.int .i64 0) 1 8 Tryz.underlying25 hi hz0 hz1 hz2 rfl (by omega) v l.length (intsV l) hs h1 ⟨lb, loff, none⟩ n cap (intsV l2) hx (by rw [intsV_len]; omega)
    (fun i u hu => ?_) (fun u hu => ?_) (by unfold maxLen; omega) (by omega) hA ?_
  · have hi : i < l2.length := by have := (List.getElem?_eq_some_iff.1 hu).1; rwa [intsV_len] at this
    have hi2 : i < n := by omega
    rw [Addr.add_lit, ← hu]
    rcases hr with ⟨h0, _⟩ | ⟨b, off, c, he, _, hc⟩
    · rw [h0] at hi; cases hi
    · simp only [Value.slice.injEq, Option.some.injEq, Addr.mk.injEq] at he
      obtain ⟨⟨rfl, rfl, _⟩, _, _⟩ := he
      rw [hc i hi]
      simp only [intsV, List.getElem?_map, List.getElem?_eq_getElem hi, Option.map_some]
  · obtain ⟨z, _, rfl⟩ := List.mem_map.1 hu
    rfl
  · intro v' w' ho' hg _ hat
    refine h v' w' ⟨?_, fun g hgg => (ho'.lt g hgg).2⟩ hg hat
    have e : intsV l ++ intsV l2 = intsV (l ++ l2) := by simp [intsV]
    rw [e] at ho'
    rw [List.length_append, hn]
    exact ho'

/-- A number drawn from a list of four. -/
theorem picki_any (B C : Nat) (w : World) (cv : Value) (len : Nat) (G : Nat) (L : List Int) (m : Nat) (hm : L.length = m) (h1 : 1 ≤ m) (h2 : m ≤ 1000)
    (hG : w.heap[G]? = some (.cells (intsV L).toArray 3 (0, 0))) (hne : G ≠ C) (hd : Dr B C cv len w) :
    Calls Tryz.prog 56 #[.pointer (some ⟨C, 0, none⟩), .slice (some ⟨G, 0, none⟩) m m] w fun e w' => ∃ z : Int, e = .returned (.int .i64 z) ∧ DrTo B C cv len w w' := by
  have HD := Lib.hid hd; clear hd
  have HG := Lib.hid hG; clear hG
  go_enter Tryz.func56, Tryz.ntmps56
  go_wp2_with fail
  refine (below_any B C _ cv len m h1 (by omega) HD.out).mono ?_
  rintro e w1 ⟨r, hr, rfl, hd1⟩
  have hrl : r < L.length := by omega
  have hcell : w1.cell? ⟨G, r, none⟩ = some (.int .i64 (L[r])) := by
    have : w.cell? ⟨G, r, none⟩ = some (.int .i64 (L[r])) := by
      rw [cell_of_row w G r _ _ _ HG.out]
      simp [intsV, hrl]
    exact hd1.2.cell this (by simp; omega)
  have HD1 := Lib.hid hd1; clear hd1
  generalize L[r] = l at *
  go_wp2_with fail
  go_ret
  exact ⟨l, rfl, HD1.out⟩

/-! ### What a drawn matrix looks like -/
def AnyM (m : List (List Int)) : Prop := m.length ≤ 5 ∧ (∀ j (h : j < m.length), m[j].length ≤ 4) ∧ 1 ≤ m.length
theorem AnyM.fit {m : List (List Int)} (h : AnyM m) : RowsFit m := ⟨by have := h.1; unfold maxLen; omega, fun j hj => by have := h.2.1 j hj; unfold maxLen; omega⟩
theorem AnyM.small {m : List (List Int)} (h : AnyM m) : Small m := ⟨by have := h.1; omega, fun j hj => by have := h.2.1 j hj; omega⟩
theorem sq_any {m : List (List Int)} (h : Sq m) : AnyM m := ⟨by have := h.2.2; omega, fun j hj => by
  have h1 := h.1 j hj
  have h2 := h.2.2
  rw [getD_row m j hj] at h1
  omega, h.2.1⟩
end Go.Proofs.YtfjeghalkmkgoaaGreatDoor
