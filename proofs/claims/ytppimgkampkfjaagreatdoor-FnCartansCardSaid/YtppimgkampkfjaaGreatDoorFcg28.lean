/-
  A row of a matrix of the call's own is replaced by another row: what the matrix reads as afterwards.
  l2Any: a drawn matrix that may be spoilt in a row.
  The draws of one matrix: a matrix of the call's own, whatever the code.
  The draw of an order, and of a matrix that is relabelled: a matrix of the call's own, whatever the code.
-/
import Derived.Maps.AppendAt
import Derived.Test.YtppimgkampkfjaaGreatDoorFcg27
import Derived.Deep.RegionHeld3
import Derived.Test.YtppimgkampkfjaaGreatDoorFcg11
import Derived.Test.YtppimgkampkfjaaGreatDoorFcg12
import Derived.Test.YtppimgkampkfjaaGreatDoorFcg10
namespace Go.Proofs.YtppimgkampkfjaaGreatDoor
open Go.RowKit

theorem RowI.past {A B g : Nat} {w w' : World} {v : Value} {l : List Int} {cur : Array Value} (h : RowI A B w v l) (hg : w.heap[g]? = some (.cells cur 39 (0, 0))) (hgr : w.grownBy w' (some g)) : RowI A B w' v l := by
  refine ⟨⟨h.1.1, ?_⟩, h.2⟩
  rcases h.1.2 with h' | ⟨r, cap, rcur, rfl, hA, hr, hn⟩
  · exact Or.inl h'
  · refine Or.inr ⟨r, cap, rcur, rfl, hA, ?_, hn⟩
    have hlt : r < w.heap.size := (Array.getElem?_eq_some_iff.mp hr).1
    have hne : some r ≠ some g := by
      intro e
      injection e with e
      subst e
      rw [hr] at hg
      injection hg with hg
      injection hg with _ ht _
      exact absurd ht (by decide)
    rw [hgr.block r hlt hne]
    exact hr

/-- A header is replaced by the header of another row of the call's own, in a block of its own. -/
theorem MatI.hdr {A B C : Nat} {w : World} {a : Option Addr} {n cap : Nat} {m : List (List Int)} (h : MatI A B w (.slice a n cap) m) {j : Nat} (hj : j < m.length) {rv : Value} {l : List Int}
    (hr : RowI B C w rv l) (hAB : A ≤ B) (hBC : B ≤ C) :
    ∃ g, a = some ⟨g, 0, none⟩ ∧ w.frozen? ⟨g, j, none⟩ = false ∧ A ≤ g ∧ g < B ∧ w.grownBy (w.setCell ⟨g, j, none⟩ rv) (some g) ∧ MatI A C (w.setCell ⟨g, j, none⟩ rv) (.slice a n cap) (m.set j l) := by
  obtain ⟨hs, h1, h2, h3, h4⟩ := h
  have hlen : hs.length = m.length := by have := h1.1; omega
  rcases h1.2 with ⟨_, h0⟩ | ⟨g, cap', cur, hval, hA, hg, _⟩
  · omega
  have ha : a = some ⟨g, 0, none⟩ := by injection hval
  have hn : n = m.length := by injection hval
  subst ha
  subst hn
  obtain ⟨ho, hgr⟩ := h1.stored j rv
  have hgB := h2 g rfl
  refine ⟨g, rfl, h1.frozenAt j, hA, hgB, hgr, hs.set j rv, by rw [List.length_set]; exact ho, fun g' hg' => Nat.lt_of_lt_of_le (h2 g' hg') hBC, fun i hi => ?_, ?_⟩
  · rw [List.length_set] at hi
    by_cases he : i = j
    · subst he
      exact ⟨rv, by rw [List.getElem?_set_self (by omega)], by rw [List.getElem_set_self]; exact (hr.past hg hgr).mono hAB (Nat.le_refl _)⟩
    · obtain ⟨hv, h5, h6⟩ := h3 i hi
      exact ⟨hv, by rw [List.getElem?_set_ne (fun e => he e.symm)]; exact h5, by rw [List.getElem_set_ne (fun e => he e.symm)]; exact (h6.past hg hgr).mono (Nat.le_refl _) hBC⟩
  · have hold : ∀ (k : Nat) (y : Value), hs[k]? = some y → ∀ q, y.ownBlock = some q → q < B := by
      intro k y hy q hq
      have hk : k < m.length := by
        have := (List.getElem?_eq_some_iff.mp hy).1
        omega
      obtain ⟨hv, h5, h6⟩ := h3 k hk
      rw [h5] at hy
      injection hy with hy
      subst hy
      exact h6.2 q hq
    have hnew : ∀ q, rv.ownBlock = some q → B ≤ q := fun q hq => (hr.1.lt q hq).1
    intro i k x y hik hx hy
    by_cases hi : i = j
    · subst hi
      rw [List.getElem?_set_self (by omega)] at hx
      injection hx with hx
      subst hx
      rw [List.getElem?_set_ne hik] at hy
      cases hq : rv.ownBlock with
      | none => exact Or.inl rfl
      | some q =>
        refine Or.inr fun e => ?_
        have h5 := hnew q hq
        have h6 := hold k y hy q e.symm
        omega
    · rw [List.getElem?_set_ne (fun e => hi e.symm)] at hx
      by_cases hk : k = j
      · subst hk
        rw [List.getElem?_set_self (by omega)] at hy
        injection hy with hy
        subst hy
        cases hq : x.ownBlock with
        | none => exact Or.inl rfl
        | some q =>
          refine Or.inr fun e => ?_
          have h5 := hnew q e.symm
          have h6 := hold i x hx q hq
          omega
      · rw [List.getElem?_set_ne (fun e => hk e.symm)] at hy
        exact h4 i k x y hik hx hy

/-- A row without its first number. -/
theorem RowI.tail {A B : Nat} {w : World} {r n cap : Nat} {l : List Int} (h : RowI A B w (.slice (some ⟨r, 0, none⟩) n cap) l) (cap' : Nat) :
    RowB B w (.slice (some ⟨r, 1, none⟩) (n - 1) cap') (l.drop 1) := by
  have hn : n = l.length := by
    obtain ⟨a, c, e⟩ := h.slice
    injection e
  subst hn
  refine Or.inr ⟨r, 1, cap', by simp, h.2 r rfl, fun j hj => ?_⟩
  have hj' : 1 + j < l.length := by rw [List.length_drop] at hj; omega
  rw [h.1.cellAt (1 + j) (by omega)]
  simp [intsV, List.getD, hj', Nat.add_comm]

/-- A header is replaced by the header of a row that may share its block with the row that was there. -/
theorem MatI.hdrB {A B C : Nat} {w : World} {a : Option Addr} {n cap : Nat} {m : List (List Int)} (h : MatI A B w (.slice a n cap) m) {j : Nat} (hj : j < m.length) {rv : Value} {l : List Int} (hBC : B ≤ C)
    (hr : ∀ g cur w' w'', w.heap[g]? = some (.cells cur 39 (0, 0)) → w.grownBy w' (some g) → SameIn A C w' w'' → RowB C w'' rv l) :
    ∃ g, a = some ⟨g, 0, none⟩ ∧ w.frozen? ⟨g, j, none⟩ = false ∧ A ≤ g ∧ g < B ∧ w.grownBy (w.setCell ⟨g, j, none⟩ rv) (some g) ∧
      ∀ w'', SameIn A C (w.setCell ⟨g, j, none⟩ rv) w'' → MatB C w'' (.slice a n cap) (m.set j l) := by
  obtain ⟨hs, h1, h2, h3, h4⟩ := h
  have hlen : hs.length = m.length := by have := h1.1; omega
  rcases h1.2 with ⟨_, h0⟩ | ⟨g, cap', cur, hval, hA, hg, _⟩
  · omega
  have ha : a = some ⟨g, 0, none⟩ := by injection hval
  have hn : n = m.length := by injection hval
  subst ha
  subst hn
  obtain ⟨ho, hgr⟩ := h1.stored j rv
  have hgB := h2 g rfl
  refine ⟨g, rfl, h1.frozenAt j, hA, hgB, hgr, fun w'' hsm => Or.inr ⟨g, 0, cap, by rw [List.length_set], Nat.lt_of_lt_of_le hgB hBC, fun i hi => ?_⟩⟩
  rw [List.length_set] at hi
  have ho2 := ownsRow_same ho (fun q hq => Nat.lt_of_lt_of_le (h2 q hq) hBC) hsm
  by_cases he : i = j
  · subst he
    exact ⟨rv, by rw [Nat.zero_add, ho2.cellAt i (by omega), List.getElem?_set_self (by omega)], by rw [List.getElem_set_self]; exact hr g cur _ _ hg hgr hsm⟩
  · obtain ⟨hv, h5, h6⟩ := h3 i hi
    exact ⟨hv, by rw [Nat.zero_add, ho2.cellAt i (by omega), List.getElem?_set_ne (fun e => he e.symm)]; exact h5, by
      rw [List.getElem_set_ne (fun e => he e.symm)]; exact (((h6.past hg hgr).mono (Nat.le_refl _) hBC).same hsm).rowB⟩

/-- The value reads as this matrix, also in every world that keeps the blocks from A on, below B. -/
def OwnK (A B : Nat) (w : World) (v : Value) (m : List (List Int)) : Prop := (∀ w', SameIn A B w w' → MatB B w' v m) ∧ B ≤ w.heap.size
theorem OwnK.mat {A B : Nat} {w : World} {v : Value} {m : List (List Int)} (h : OwnK A B w v m) : MatB B w v m := h.1 w (SameIn.refl _ _ _)
theorem OwnM.ownK {A B : Nat} {w : World} {v : Value} {m : List (List Int)} (h : OwnM A B w v m) : OwnK A B w v m := ⟨fun _ hs => (h.1.same hs).matB, h.2⟩
theorem OwnK.same {A B : Nat} {w w' : World} {v : Value} {m : List (List Int)} (h : OwnK A B w v m) (hs : SameIn A B w w') (hsz : w.heap.size ≤ w'.heap.size) : OwnK A B w' v m :=
  ⟨fun _ h2 => h.1 _ (hs.trans h2), Nat.le_trans h.2 hsz⟩
theorem OwnK.drawn {A D B C : Nat} {cv x : Value} {len : Nat} {w w' : World} {m : List (List Int)} (h : OwnK A D w x m) (hC : C < A) (hd : DrTo B C cv len w w') : OwnK A D w' x m :=
  h.same (fun k h1 h2 => hd.2.block k (Nat.lt_of_lt_of_le h2 h.2) (fun e => by injection e with e; omega)) hd.2.size
theorem OwnK.below {A D : Nat} {x : Value} {w w' : World} {m : List (List Int)} (h : OwnK A D w x m) (hb : Below w.heap.size w w') : OwnK A D w' x m :=
  h.same (SameIn.of_below hb h.2) hb.size

set_option maxRecDepth 100000 in
/-- 'append(s, x...)': all of a row onto a row of the call's own. -/
theorem append_all {ops : Array Oper} {rest : List Oper} {o : Oper} {a : Act} {Q : Exit → Act → World → Prop} {s x : Operand} {A B : Nat} {v : Value} {l l2 : List Int} {W : World} (lb loff n cap : Nat)
    (hM : RowI A W.heap.size W v l) (hA : A ≤ W.heap.size) (hr : RowB B W (.slice (some ⟨lb, loff, none⟩) n cap) l2) (hn : l2.length = n) (hgd : o.guard = none)
    (ho : o.op = .call { callee := .builtin .append, args := #[s, x], argTypes := #[39, 39] }) (hs : a.eval s = v)
    (hx : a.eval x = .slice (some ⟨lb, loff, none⟩) n cap) (hlen : l.length + n ≤ 1048576)
    (h : ∀ v' w', RowI A w'.heap.size w' v' (l ++ l2) → W.grownBy w' v.ownBlock → (v'.ownBlock = v.ownBlock ∨ v'.ownBlock = some W.heap.size) → wpList Tryz.prog ops Q rest (a.put o.dst v') w') :
    wpList Tryz.prog ops Q (o :: rest) a W := by
  obtain ⟨h1, h2⟩ := hM
  obtain ⟨i0, hi, hz0, hz1, hz2⟩ := info_parts Tryz.infoInt
  refine wpList_append_own_at W hgd s x 39 ho A 3 i0 (.int .i64 0) 1 8 Tryz.underlying39 hi hz0 hz1 hz2 rfl (by omega) v l.length (intsV l) hs h1 ⟨lb, loff, none⟩ n cap (intsV l2) hx (by rw [intsV_len]; omega)
    (fun i u hu => ?_) (fun u hu => ?_) (by unfold maxLen; omega) (by omega) hA ?_
  · have hi : i < l2.length := by have := (List.getElem?_eq_some_iff.1 hu).1; rwa [intsV_len] at this
    have hi2 : i < n := by omega
    rw [Addr.add_lit, ← hu]
    rcases hr with ⟨h0, _⟩ | ⟨b, off, c, he, _, hc⟩
    · rw [h0] at hi; cases hi
    · simp only [Value.slice.injEq, Option.some.injEq, Addr.mk.injEq] at he
      obtain ⟨⟨rfl, rfl, _⟩, _, _⟩ := he
      rw [hc i hi]
      simp only [intsV, List.getElem?_map, List.getElem?_eq_getElem hi, Option.map_some]
  · obtain ⟨z, _, rfl⟩ := List.mem_map.1 hu
    rfl
  · intro v' w' ho' hg _ hat
    refine h v' w' ⟨?_, fun g hgg => (ho'.lt g hgg).2⟩ hg hat
    have e : intsV l ++ intsV l2 = intsV (l ++ l2) := by simp [intsV]
    rw [e] at ho'
    rw [List.length_append, hn]
    exact ho'

/-- A number drawn from a list of four. -/
theorem picki_any (B C : Nat) (w : World) (cv : Value) (len : Nat) (G : Nat) (L : List Int) (m : Nat) (hm : L.length = m) (h1 : 1 ≤ m) (h2 : m ≤ 1000)
    (hG : w.heap[G]? = some (.cells (intsV L).toArray 3 (0, 0))) (hne : G ≠ C) (hd : Dr B C cv len w) :
    Calls Tryz.prog 118 #[.pointer (some ⟨C, 0, none⟩), .slice (some ⟨G, 0, none⟩) m m] w fun e w' => ∃ z : Int, e = .returned (.int .i64 z) ∧ DrTo B C cv len w w' := by
  have HD := Lib.hid hd; clear hd
  have HG := Lib.hid hG; clear hG
  go_enter Tryz.func118, Tryz.ntmps118
  go_wp2_with fail
  refine (below_any B C _ cv len m h1 (by omega) HD.out).mono ?_
  rintro e w1 ⟨r, hr, rfl, hd1⟩
  have hrl : r < L.length := by omega
  have hcell : w1.cell? ⟨G, r, none⟩ = some (.int .i64 (L[r])) := by
    have : w.cell? ⟨G, r, none⟩ = some (.int .i64 (L[r])) := by
      rw [cell_of_row w G r _ _ _ HG.out]
      simp [intsV, hrl]
    exact hd1.2.cell this (by simp; omega)
  have HD1 := Lib.hid hd1; clear hd1
  generalize L[r] = l at *
  go_wp2_with fail
  go_ret
  exact ⟨l, rfl, HD1.out⟩

/-! ### What a drawn matrix looks like -/
def AnyM (m : List (List Int)) : Prop := m.length ≤ 5 ∧ (∀ j (h : j < m.length), m[j].length ≤ 4) ∧ 1 ≤ m.length
theorem AnyM.fit {m : List (List Int)} (h : AnyM m) : RowsFit m := ⟨by have := h.1; unfold maxLen; omega, fun j hj => by have := h.2.1 j hj; unfold maxLen; omega⟩
theorem AnyM.small {m : List (List Int)} (h : AnyM m) : Small m := ⟨by have := h.1; omega, fun j hj => by have := h.2.1 j hj; omega⟩
theorem sq_any {m : List (List Int)} (h : Sq m) : AnyM m := ⟨by have := h.2.2; omega, fun j hj => by
  have h1 := h.1 j hj
  have h2 := h.2.2
  rw [getD_row m j hj] at h1
  omega, h.2.1⟩
end Go.Proofs.YtppimgkampkfjaaGreatDoor
namespace Go.Proofs.YtppimgkampkfjaaGreatDoor
open Go.RowKit

/-- What a call that draws any matrix leaves. -/
def DrK (B C : Nat) (cv : Value) (len : Nat) (w : World) (e : Ending) (w' : World) : Prop :=
  ∃ x m, e = .returned x ∧ DrTo B C cv len w w' ∧ OwnK w.heap.size w'.heap.size w' x m ∧ AnyM m

theorem MatI.hd {A B : Nat} {w : World} {a : Option Addr} {n cap : Nat} {m : List (List Int)} (h : MatI A B w (.slice a n cap) m) {j k : Nat} (hj : j < m.length) (hk : (m.getD j []).length = k) (h0 : 0 < k) :
    ∃ g r rcap, a = some ⟨g, 0, none⟩ ∧ w.cell? ⟨g, j, none⟩ = some (.slice (some ⟨r, 0, none⟩) k rcap) ∧ RowI A B w (.slice (some ⟨r, 0, none⟩) k rcap) (m.getD j []) ∧ r ≠ g := by
  obtain ⟨hs, h1, h2, h3, _⟩ := h
  obtain ⟨hv, h4, h5⟩ := h3 j hj
  rw [← getD_row m j hj] at h5
  rcases h1.2 with ⟨_, he⟩ | ⟨g, cap', cur, hval, _⟩
  · omega
  · have ha : a = some ⟨g, 0, none⟩ := by injection hval
    have hn : n = m.length := by injection hval
    subst ha
    subst hn
    rcases h5.1.2 with ⟨_, hz⟩ | ⟨r, rcap, rcur, rfl, _⟩
    · omega
    · subst hk
      exact ⟨g, r, rcap, rfl, by rw [h1.cellAt j (by omega)]; exact h4, h5, fun e => by
        rcases own_other h5.1 h1 with h | h
        · cases h
        · exact h (by rw [e]; rfl)⟩

theorem RowI.someRow {A B : Nat} {w : World} {v : Value} {l : List Int} {k : Nat} (h : RowI A B w v l) (hl : l.length = k) (h0 : 0 < k) : ∃ q cap, v = .slice (some ⟨q, 0, none⟩) k cap ∧ A ≤ q ∧ q < B := by
  rcases h.1.2 with ⟨_, hz⟩ | ⟨r, rcap, rcur, rfl, hA, _⟩
  · omega
  · exact ⟨r, rcap, by rw [hl], hA, h.2 r rfl⟩
theorem DrTo.past {B C : Nat} {cv : Value} {len : Nat} {w w' w'' : World} (h : DrTo B C cv len w w') (hb : Below w.heap.size w' w'') (hC : C < w.heap.size) : DrTo B C cv len w w'' :=
  ⟨h.1.below hb hC, hb.os.trans h.2.os, hb.tape.trans h.2.tape, hb.output.trans h.2.output, Nat.le_trans h.2.size hb.size, fun k hk hn => (hb.block k hk).trans (h.2.block k hk hn)⟩
theorem set_getD (m : List (List Int)) (i : Nat) : m.set i (m.getD i []) = m := by
  by_cases h : i < m.length
  · rw [getD_row m i h]; exact List.set_getElem_self h
  · rw [List.set_eq_of_length_le (by omega)]

theorem any_set {m : List (List Int)} (h : AnyM m) (i : Nat) {l : List Int} (hl : l.length ≤ 4) : AnyM (m.set i l) := ⟨by rw [List.length_set]; exact h.1, fun j hj => by
  rw [List.length_set] at hj
  by_cases he : i = j
  · subst he
    rw [List.getElem_set_self]
    exact hl
  · rw [List.getElem_set_ne he]
    exact h.2.1 j hj, by rw [List.length_set]; exact h.2.2⟩
theorem any_app {m : List (List Int)} (h : AnyM m) (hm : m.length ≤ 4) {l : List Int} (hl : l.length ≤ 4) : AnyM (m ++ [l]) := ⟨by simp; omega, fun j hj => by
  by_cases he : j < m.length
  · rw [List.getElem_append_left he]; exact h.2.1 j he
  · rw [List.getElem_append_right (by omega)]; simp; exact hl, by simp⟩
theorem row_two (w : World) : RowI w.heap.size (w.alloc (.cells #[.int .i64 2] 3)).heap.size (w.alloc (.cells #[.int .i64 2] 3)) (.slice (some ⟨w.heap.size, 0, none⟩) 1 1) [2] :=
  ⟨World.ownsRow_lit w #[.int .i64 2] 1 (Nat.le_refl _) (by unfold maxLen; omega) rfl, fun g hg => by
    have : w.heap.size = g := by simpa [Value.ownBlock] using hg
    simp; omega⟩
/-- The row without its first number, as the code leaves its header. -/
theorem RowI.cut {A B C : Nat} {w : World} {r n cap : Nat} {l : List Int} (h : RowI A B w (.slice (some ⟨r, 0, none⟩) n cap) l) (hn : l.length = n) (h1 : 1 ≤ n) (hBC : B ≤ C) :
    ∃ rv, (∀ g cur w' w'', w.heap[g]? = some (.cells cur 39 (0, 0)) → w.grownBy w' (some g) → SameIn A C w' w'' → RowB C w'' rv (l.drop 1)) ∧
      (cap = 1 → rv = .slice (some ⟨r, 0, none⟩) (n - 1) 0) ∧ (cap ≠ 1 → rv = .slice (some ⟨r, 1, none⟩) (n - 1) (cap - 1)) := by
  by_cases hc : cap = 1
  · have hn1 : n ≤ cap := by
      rcases h.1.2 with ⟨e, _⟩ | ⟨g, c, cur, e, _, _, hle, _⟩
      · cases e
      · injection e with _ e2 e3
        omega
    refine ⟨.slice (some ⟨r, 0, none⟩) (n - 1) 0, fun g cur w' w'' hg hgr hsm => Or.inl ⟨List.eq_nil_of_length_eq_zero (by rw [List.length_drop]; omega), some ⟨r, 0, none⟩, 0, by rw [show n - 1 = 0 by omega]⟩, fun _ => rfl, fun h => absurd hc h⟩
  · exact ⟨.slice (some ⟨r, 1, none⟩) (n - 1) (cap - 1), fun g cur w' w'' hg hgr hsm => (((h.past hg hgr).mono (Nat.le_refl _) hBC).same hsm).tail _, fun e => absurd e hc, fun _ => rfl⟩

set_option maxHeartbeats 1000000 in
set_option maxRecDepth 100000 in
theorem any_any (B C : Nat) (w : World) (cv : Value) (len : Nat) (hd : Dr B C cv len w) :
    Calls Tryz.prog 72 #[.pointer (some ⟨C, 0, none⟩)] w (DrK B C cv len w) := by
  have hCw := hd.lt
  have HO := Lib.hid (drw_any B C w cv len hd)
  clear hd
  go_enter Tryz.func72, Tryz.ntmps72
  go_wp2_with fail
  refine HO.out.mono ?_
  rintro e w1 ⟨x, m, rfl, hd1, hx, hsq⟩
  clear HO
  have HW1 := Lib.hid hd1
  have hs1 := hd1.2.size
  obtain ⟨xa, xcap, rfl⟩ := hx.1.slice
  have HX := Lib.hid hx
  have HSQ := Lib.hid hsq
  have hn1 := hsq.2.1
  have hn4 := hsq.2.2
  clear hd1 hx hsq
  generalize hn : m.length = n at *
  have HN := Lib.hid hn; clear hn
  go_wp2_with fail
  refine (once_any B C _ cv len 12 (by omega) (by omega) HW1.out.1).mono ?_
  rintro e w2 ⟨b, rfl, hd⟩
  have HW2 := Lib.hid (HW1.out.trans hd)
  have HX2 := Lib.hid (HX.out.drawn (by omega) hd)
  have hs2 := hd.2.size
  clear hd HW1 HX
  cases b with
  | false =>
    go_wp2_with fail
    go_ret
    exact ⟨_, m, rfl, HW2.out, (OwnM.ownK ⟨HX2.out.1.mono (Nat.le_refl _) hs2, Nat.le_refl _⟩), sq_any HSQ.out⟩
  | true =>
    go_wp2_with fail
    refine (below_any B C _ cv len n hn1 (by omega) HW2.out.1).mono ?_
    rintro e w3 ⟨i, hi, rfl, hd⟩
    have HW3 := Lib.hid (HW2.out.trans hd)
    have HX3 := Lib.hid (HX2.out.drawn (by omega) hd)
    have hs3 := hd.2.size
    clear hd HW2 HX2
    have hi' : i < m.length := by rw [HN.out]; exact hi
    have hlen : (m.getD i []).length = n := by rw [← HN.out]; exact HSQ.out.1 i hi'
    obtain ⟨g, r, rcap, rfl, hc, hr, _⟩ := HX3.out.1.hd hi' hlen (by omega)
    have HR := Lib.hid hr
    have HC3 := Lib.hid hc
    have HI := Lib.hid hi'
    have HL := Lib.hid hlen
    have hc' : (w3.alloc (.cells #[] 3)).cell? ⟨g, i, none⟩ = some (.slice (some ⟨r, 0, none⟩) n rcap) := by
      rw [World.cell?_alloc_past _ _ _ (by simpa using World.block_lt_of_cell? w3 _ hc)]; exact hc
    have hb0 : Below w3.heap.size w3 (w3.alloc (.cells #[] 3)) := (Below.refl _ _).alloc (Nat.le_refl _) _
    have HE := Lib.hid (row_empty w3)
    have HB0 := Lib.hid hb0
    have HRA := Lib.hid (hr.rowB.mono (Nat.le_trans (Nat.le_trans hs2 hs3) (Nat.le_refl _)) |>.below hb0 (Nat.le_refl _))
    clear hr hc hi' hlen hb0
    go_wp2_with (with_reducible refine append_all (o := ⟨some 20, _, _, _, _, _⟩) r 0 n rcap HE.out (by simp) HRA.out HL.out rfl rfl rfl rfl (by simp; omega) ?_)
    intro v' w5 hv0 hg hat
    have hv : RowI w3.heap.size w5.heap.size w5 v' (m.getD i []) := by rw [List.getD_eq_getElem?_getD]; exact hv0
    have hb5 : Below w3.heap.size w3 w5 := HB0.out.grown hg (by simp) (fun k hk => by simp [Value.ownBlock] at hk; omega)
    have hs5 := hb5.size
    have hX5 : OwnM w.heap.size w1.heap.size w5 (.slice (some ⟨g, 0, none⟩) n xcap) m := ⟨HX3.out.1.same (SameIn.of_below hb5 (by omega)), by omega⟩
    obtain ⟨q, qcap, rfl, hq1, hq2⟩ := hv.someRow HL.out (by omega)
    obtain ⟨g', hg', hfr, hg1, hg2, hgr, hM⟩ := (hX5.1.mono (Nat.le_refl _) (by omega) : MatI w.heap.size w3.heap.size w5 _ m).hdr HI.out hv (by omega) hb5.size
    have hge : g = g' := by injection hg' with e; injection e
    subst hge
    rw [set_getD] at hM
    have hcell : w5.cell? ⟨g, i, none⟩ = some (.slice (some ⟨r, 0, none⟩) n rcap) := by
      have : w5.heap[g]? = w3.heap[g]? := hb5.block g (by omega)
      rw [← HC3.out]
      unfold World.cell?
      simp [this]
    have hbs : Below w.heap.size w3 (w5.setCell ⟨g, i, none⟩ (.slice (some ⟨q, 0, none⟩) n qcap)) := ((hb5.mono (by omega) : Below w.heap.size w3 w5)).setCell hg1 _
    have HW6 := Lib.hid (HW3.out.past hbs hCw)
    have HX6 := Lib.hid (show OwnM w.heap.size w5.heap.size _ _ m from ⟨hM, by simp⟩)
    have hs6 : w5.heap.size = (w5.setCell ⟨g, i, none⟩ (.slice (some ⟨q, 0, none⟩) n qcap)).heap.size := by simp
    clear hb5 hg hat hv hv0 hX5 hgr hM hbs HW3 HX3 HR HRA HE HB0 HC3 hc'
    generalize hw6 : w5.setCell ⟨g, i, none⟩ (.slice (some ⟨q, 0, none⟩) n qcap) = w6 at *
    go_wp2_with fail
    clear hw6 hcell hfr
    refine (below_any B C _ cv len 3 (by omega) (by omega) HW6.out.1).mono ?_
    rintro e w7 ⟨d, hd3, rfl, hd⟩
    have HW7 := Lib.hid (HW6.out.trans hd)
    have HX7 := Lib.hid (HX6.out.drawn (by omega) hd)
    have hs7 := hd.2.size
    clear hd HW6 HX6
    obtain ⟨g', r', rcap', hg', hc, hr, hne⟩ := HX7.out.1.hd HI.out HL.out (by omega)
    have hge : g = g' := by injection hg' with e; injection e
    subst hge
    clear hg'
    have HR := Lib.hid hr
    clear hr
    have hd3 : d = 0 ∨ d = 1 ∨ d = 2 := by omega
    rcases hd3 with rfl | rfl | rfl
    · have hba : Below w7.heap.size w7 (w7.drew.alloc (.cells #[.int .i64 (-4), .int .i64 1, .int .i64 0, .int .i64 2] 3)) := (Below.refl _ _).drew.alloc (Nat.le_refl _) _
      have hg7 : g < w7.heap.size := by omega
      have hcA : (w7.drew.alloc (.cells #[.int .i64 (-4), .int .i64 1, .int .i64 0, .int .i64 2] 3)).cell? ⟨g, i, none⟩ = some (.slice (some ⟨r', 0, none⟩) n rcap') := by
        rw [hba.cell hg7]; exact hc
      have hcD : w7.drew.cell? ⟨g, i, none⟩ = some (.slice (some ⟨r', 0, none⟩) n rcap') := hc
      have HXA := Lib.hid (show OwnM w.heap.size w5.heap.size (w7.drew.alloc (.cells #[.int .i64 (-4), .int .i64 1, .int .i64 0, .int .i64 2] 3)) (.slice (some ⟨g, 0, none⟩) n xcap) m from ⟨HX7.out.1.same (SameIn.of_below hba (by omega)), by simp; omega⟩)
      have HDA := Lib.hid (HW7.out.past (hba.mono (by omega)) hCw)
      have HLT := Lib.hid (show (w7.drew.alloc (.cells #[.int .i64 (-4), .int .i64 1, .int .i64 0, .int .i64 2] 3)).heap[w7.heap.size]? = some (.cells (intsV [-4, 1, 0, 2]).toArray 3 (0, 0)) from (MapKept.heap_alloc w7.drew _).1)
      have h0n : (0 : Int) < (n : Int) := by omega
      have h0N : 0 < n := by omega
      have h0m : 0 < (m.getD i []).length := by rw [HL.out]; omega
      have H0M := Lib.hid h0m
      clear hba h0m
      go_wp2_with fail
      go_region_held3 (fun w' => w'.cell? ⟨g, i, none⟩ = some (.slice (some ⟨r', 0, none⟩) n rcap')) (first | exact hcD | exact hcA | exact hcK | exact hcS)
        (first
          | (go_at_call 118
             refine (picki_any B C _ cv len w7.heap.size [-4, 1, 0, 2] 4 rfl (by omega) (by omega) HLT.out (by omega) HDA.out.1).mono ?_
             rintro e w8 ⟨z, rfl, hd⟩
             have hcK : w8.cell? ⟨g, i, none⟩ = some (.slice (some ⟨r', 0, none⟩) n rcap') := hd.2.cell hcA (by simp; omega)
             have HX8 := Lib.hid (HXA.out.drawn (by omega) hd)
             have HW8 := Lib.hid (HDA.out.trans hd)
             clear hd
             obtain ⟨g8, r8, rcap8, hg8, hc8, hv8, hf8, hA8, hB8, hput⟩ := HX8.out.1.put HI.out H0M.out
             have hge8 : g = g8 := by injection hg8 with e; injection e
             subst hge8
             rw [hcK] at hc8
             have hre8 : r' = r8 := by
               injection hc8 with e
               injection e with e
               injection e with e
               injection e
             subst hre8
             have HP8 := Lib.hid (hput z)
             clear hput hc8 hg8
             have hcS : (w8.setCell ⟨r', 0, none⟩ (.int .i64 z)).cell? ⟨g, i, none⟩ = some (.slice (some ⟨r', 0, none⟩) n rcap') := by
               rw [World.cell?_setCell_far _ _ _ _ (by simpa using hne)]; exact hcK))
      have hgr9 : Below w.heap.size w8 (w8.setCell ⟨r', 0, none⟩ (.int .i64 z)) := (Below.refl _ _).setCell hA8 _
      have HW9 := Lib.hid (HW8.out.past hgr9 hCw)
      have HX9 := Lib.hid (OwnM.ownK ⟨HP8.out, by have := HX8.out.2; simp; omega⟩)
      have HA := Lib.hid (sq_any (sq_set2 HSQ.out i 0 z))
      clear hgr9 HP8 hcS hcK hv8 hf8
      go_wp2_with fail
      go_ret
      exact ⟨_, _, rfl, HW9.out, ⟨fun w' hs => (HX9.out.1 w' (fun k h1 h2 => hs k h1 (by have := HX8.out.2; simp; omega))).mono (by have := HX8.out.2; simp; omega), Nat.le_refl _⟩, HA.out⟩
    · obtain ⟨rv, hcut, hc1, hc2⟩ := HR.out.cut HL.out hn1 (Nat.le_refl w5.heap.size)
      obtain ⟨g', hg', hfr, _, hg3, hgr, hM⟩ := HX7.out.1.hdrB HI.out (Nat.le_refl w5.heap.size) hcut
      have hge : g = g' := by injection hg' with e; injection e
      subst hge
      clear hg' hcut
      have hbs : Below w.heap.size w7 (w7.setCell ⟨g, i, none⟩ rv) := (Below.refl _ _).setCell hg1 _
      have HW8 := Lib.hid (HW7.out.past hbs hCw)
      have HX8 := Lib.hid (show OwnK w.heap.size (w7.setCell ⟨g, i, none⟩ rv).heap.size (w7.setCell ⟨g, i, none⟩ rv) _ _ from ⟨fun w' hs => (hM w' (fun k h1 h2 => hs k h1 (by simp; omega))).mono (by simp; omega), Nat.le_refl _⟩)
      have hany := any_set (sq_any HSQ.out) i (l := (m.getD i []).drop 1) (by rw [List.length_drop, HL.out]; omega)
      have HA := Lib.hid hany
      clear hany hM hgr hbs HR HX7 HW7
      by_cases hcap : rcap' = 1
      · have hrv := hc1 hcap
        subst hrv
        clear hc1 hc2
        go_wp2_with fail
        go_ret
        exact ⟨_, _, rfl, HW8.out, HX8.out, HA.out⟩
      · have hrv := hc2 hcap
        subst hrv
        clear hc1 hc2
        go_wp2_with fail
        go_ret
        exact ⟨_, _, rfl, HW8.out, HX8.out, HA.out⟩
    · have hba : Below w7.heap.size w7 (w7.alloc (.cells #[.int .i64 2] 3)) := (Below.refl _ _).alloc (Nat.le_refl _) _
      have HBA := Lib.hid hba
      have HM := Lib.hid ((HX7.out.1.same (SameIn.of_below hba (by omega))).mono (Nat.le_refl _) (show w5.heap.size ≤ w7.heap.size by omega))
      have HT := Lib.hid (row_two w7)
      have hl7 : m.length ≤ 1048576 := by rw [HN.out]; omega
      have HL7 := Lib.hid hl7
      clear hba hl7
      go_wp2_with (at_builtin; go_must (refine append_row HM.out HT.out (by omega) (by simp) rfl rfl rfl (by rw [World.size_alloc]; rfl) HL7.out ?_))
      intro v' w8 hM8 hk8 hs8
      have hb8 : Below w.heap.size w7 w8 := (hk8 w7 w.heap.size (Nat.le_refl _) (HBA.out.mono (by omega)))
      have HW8 := Lib.hid (HW7.out.past hb8 hCw)
      have HX8 := Lib.hid (OwnM.ownK ⟨hM8, Nat.le_refl _⟩)
      have HA := Lib.hid (any_app (sq_any HSQ.out) (by rw [HN.out]; omega) (l := [2]) (by simp))
      clear hM8 hk8 hb8 HM HT HBA
      go_wp2_with fail
      go_ret
      exact ⟨_, _, rfl, HW8.out, HX8.out, HA.out⟩
end Go.Proofs.YtppimgkampkfjaaGreatDoor
namespace Go.Proofs.YtppimgkampkfjaaGreatDoor
open Go.RowKit

/-- What a draw of one matrix leaves. -/
def DrawnM (w : World) (e : Ending) (w' : World) : Prop := ∃ x m, e = .returned x ∧ Below w.heap.size w w' ∧ OwnK w.heap.size w'.heap.size w' x m ∧ AnyM m
set_option maxRecDepth 100000 in
theorem drawSym_any (B : Nat) (w : World) (cv : Value) (len : Nat) (hl : len ≤ 1048576) (hc : CodeB B w cv len) (hB : B ≤ w.heap.size) :
    Calls Tryz.prog 40 #[cv] w (DrawnM w) := by
  have HN := Lib.hid (new_any B w cv len hl hB hc)
  go_enter Tryz.func40, Tryz.ntmps40
  go_wp2_with fail
  refine HN.out.mono ?_
  rintro e w1 ⟨rfl, hd, hg⟩
  have HG := Lib.hid hg
  have hs1 := hg.size
  have HA := Lib.hid (any_any B w.heap.size w1 cv len hd)
  clear hd hg
  go_wp2_with fail
  refine HA.out.mono ?_
  rintro e w2 ⟨x, m, rfl, hd, hx, hm⟩
  have HB := Lib.hid (draw_below HG.out hd)
  have HX := Lib.hid hx
  clear hd hx
  go_wp2_with fail
  go_ret
  exact ⟨x, m, rfl, HB.out, ⟨fun w' hs => HX.out.1 w' (fun k h1 h2 => hs k (by omega) h2), HX.out.2⟩, hm⟩
end Go.Proofs.YtppimgkampkfjaaGreatDoor
namespace Go.Proofs.YtppimgkampkfjaaGreatDoor
open Go.RowKit

theorem MatI.rowI5 {A B : Nat} {w : World} {a : Option Addr} {n cap : Nat} {m : List (List Int)} (h : MatI A B w (.slice a n cap) m) {j : Nat} (hj : j < m.length) :
    ∃ b hv, a = some ⟨b, 0, none⟩ ∧ A ≤ b ∧ b < B ∧ w.cell? ⟨b, j, none⟩ = some hv ∧ RowI A B w hv (m.getD j []) := by
  obtain ⟨hs, h1, h2, h3, _⟩ := h
  obtain ⟨hv, h4, h5⟩ := h3 j hj
  rcases h1.2 with ⟨_, he⟩ | ⟨g, cap', cur, hval, hAg, _⟩
  · omega
  · have ha : a = some ⟨g, 0, none⟩ := by injection hval
    have hn : n = m.length := by injection hval
    subst ha
    subst hn
    exact ⟨g, hv, rfl, hAg, h2 g rfl, by rw [h1.cellAt j (by omega)]; exact h4, by rw [getD_row m j hj]; exact h5⟩
theorem ords_row : ∀ k, k ≤ 4 → ∀ q ∈ ords k, q.length = k := by decide +kernel
theorem ords_some : ∀ k, k ≤ 4 → 1 ≤ (ords k).length ∧ (ords k).length ≤ 24 := by decide +kernel
theorem grown_of_below {w w' : World} {S : Option Nat} (h : Below w.heap.size w w') : w.grownBy w' S := ⟨h.os, h.tape, h.output, h.size, fun j hj _ => h.block j hj⟩
set_option maxHeartbeats 2000000 in
set_option maxRecDepth 100000 in
theorem ord_any (B C : Nat) (w : World) (cv : Value) (len : Nat) (hd : Dr B C cv len w) (n k : Nat) (h1 : 1 ≤ k) (hk : k = min n 4) :
    Calls Tryz.prog 99 #[.pointer (some ⟨C, 0, none⟩), .int .i64 n] w fun e w' => ∃ x q, e = .returned x ∧ DrTo B C cv len w w' ∧ OwnS w.heap.size w'.heap.size w' x (intL q) ∧ q.length = k := by
  have hCw := hd.lt
  have HD := Lib.hid hd; clear hd
  have h4 : k ≤ 4 := by omega
  have HL3 := Lib.hid (fun w1 => l3o_any k w1 h4)
  obtain ⟨ho1, ho24⟩ := ords_some k h4
  have HRO := Lib.hid (ords_row k h4)
  have hTL : (tabL (ords k)).length = (ords k).length := by simp [tabL]
  have HTG : Hid (∀ j, j < (ords k).length → ∃ q ∈ ords k, (tabL (ords k)).getD j [] = intL q) := Lib.hid (fun j hj => ⟨(ords k)[j], List.getElem_mem hj, by simp [tabL, List.getD, hj]⟩)
  generalize tabL (ords k) = T at *
  generalize (ords k).length = N at *
  have HTL := Lib.hid hTL; clear hTL
  have hmin : min (n : Int) 4 = (k : Int) := by omega
  go_enter Tryz.func99, Tryz.ntmps99
  go_wp2_with fail
  rw [← hk]
  clear hk
  refine (HL3.out w).mono ?_
  rintro e w1 ⟨x, rfl, hx, hb1⟩
  have HD1 := Lib.hid (HD.out.below hb1 hCw)
  have hs1 := hb1.size
  obtain ⟨la, lcap, rfl⟩ := hx.1.slice
  rw [HTL.out] at hx ⊢
  have HX := Lib.hid hx.1
  have HB1 := Lib.hid hb1
  clear hx hb1
  go_wp2_with fail
  have hC1 : C < w1.heap.size := by omega
  refine (below_any B C _ cv len N ho1 (by omega) (HD1.out.alloc (.cells #[] 3))).mono ?_
  rintro e w2 ⟨r, hr, rfl, hd2⟩
  have hg2 := hd2.2
  have hs2 : w1.heap.size + 1 ≤ w2.heap.size := by have := hg2.size; simp at this; omega
  have hba : Below w1.heap.size w1 (w1.alloc (.cells #[] 3)) := (Below.refl _ _).alloc (Nat.le_refl _) _
  have hX1 : MatI w.heap.size w1.heap.size (w1.alloc (.cells #[] 3)) (.slice la N lcap) T := HX.out.same (SameIn.of_below hba (Nat.le_refl _))
  have hX2 : MatI w.heap.size w1.heap.size w2 (.slice la N lcap) T := hX1.same (fun j h1 h2 => hg2.block j (by simp; omega) (fun e => by have := Option.some.inj e; omega))
  obtain ⟨b, hv, rfl, hA, hbB, hcell, hrow⟩ := hX2.rowI5 (j := r) (by rw [HTL.out]; exact hr)
  obtain ⟨q, hq, hqe⟩ := HTG.out r hr
  rw [hqe] at hrow
  have hql := HRO.out q hq
  obtain ⟨rb, rcap, rfl, hrA, hrB⟩ := hrow.someRow (k := k) (by rw [intL_len]; exact hql) h1
  have hE2 : RowI w1.heap.size w2.heap.size w2 (.slice (some ⟨w1.heap.size, 0, none⟩) 0 0) [] := ((row_empty w1).grown hg2 (Or.inr (fun e => by
    have : w1.heap.size = C := by simpa [Value.ownBlock] using e
    omega))).mono (Nat.le_refl _) (by simp; omega)
  have HROW := Lib.hid hrow; have HE := Lib.hid hE2; have HD2 := Lib.hid hd2
  have HLQ := Lib.hid hql
  clear hX1 hX2 hrow hE2 hd2 hqe hq hba
  go_wp2_with (at_builtin; go_must (refine append_all rb 0 k rcap HE.out (by omega) HROW.out.rowB (by rw [intL_len]; exact HLQ.out) rfl rfl rfl rfl (by simp; omega) ?_; intro v3 w3 hr3 hg3 hb3))
  rw [List.nil_append] at hr3
  have hcap : CapOk v3 ∨ True := Or.inr trivial
  have HR3 := Lib.hid hr3
  have HB3 := Lib.hid (show Below w1.heap.size w2 w3 from (Below.refl _ _).grown hg3 (by omega) (fun j hj => by
    have : w1.heap.size = j := by simpa [Value.ownBlock] using hj
    omega))
  have hs3 := hg3.size
  clear hr3 hg3 hb3 hcap
  go_ret
  have hdt : DrTo B C cv len w w2 := ⟨HD2.out.1, (grown_of_below HB1.out).trans ((grown_of_below (Below.refl _ _ |>.alloc (Nat.le_refl _) _)).trans HD2.out.2)⟩
  exact ⟨v3, q, rfl, hdt.past (HB3.out.mono (by omega)) (by omega), ⟨HR3.out.mono (by omega) (Nat.le_refl _), Nat.le_refl _⟩, HLQ.out⟩

/-! ### A matrix relabelled -/
open Classical in
theorem rel_anyM {m : List (List Int)} {l : List Int} (h : relB m l = true) : AnyM (relM m l) := by
  have hok : RelOk m l := of_decide_eq_true h
  rw [relM_yes hok]
  have hl := hok.2.1
  have h4 := hok.1.2.2
  have hlen := pick_len m l
  refine ⟨by omega, fun j hj => ?_, by omega⟩
  have hr := pick_rows m l j (by omega)
  rw [getD_row _ j hj] at hr
  omega
end Go.Proofs.YtppimgkampkfjaaGreatDoor
