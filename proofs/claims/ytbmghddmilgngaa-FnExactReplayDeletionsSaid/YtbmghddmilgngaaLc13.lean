/-
  What the laws' walks carry from call to call: the values of the call's own, and what each call leaves as it was.
  Matrices that the call itself builds, row by row or entry by entry.
-/
import Derived.Test.YtbmghddmilgngaaLc12
namespace Go.Proofs.Ytbmghddmilgngaa
open Go.RowKit

theorem below_drewN {w : World} (q : Nat) : Below w.heap.size w (w.drewN q) := ⟨rfl, rfl, rfl, Nat.le_refl _, fun _ _ => rfl⟩
/-- A matrix of the call's own, all of it laid. -/
def OwnM (A B : Nat) (w : World) (v : Value) (m : List (List Int)) : Prop := MatI A B w v m ∧ B ≤ w.heap.size
theorem OwnM.step {A B : Nat} {w w' : World} {v : Value} {m : List (List Int)} (h : OwnM A B w v m) (hb : Below w.heap.size w w') : OwnM A B w' v m :=
  ⟨h.1.same (SameIn.of_below hb h.2), Nat.le_trans h.2 hb.size⟩
theorem OwnM.only {A B C D : Nat} {w w' : World} {v : Value} {m : List (List Int)} (h : OwnM A B w v m) (ho : Only C D w w') (hd : B ≤ C ∨ D ≤ A) : OwnM A B w' v m :=
  ⟨h.1.same (ho.sameIn hd), by rw [ho.size]; exact h.2⟩
theorem OwnM.matB {A B : Nat} {w : World} {v : Value} {m : List (List Int)} (h : OwnM A B w v m) : MatB B w v m := h.1.matB
/-- A list of the call's own. -/
def OwnS (A B : Nat) (w : World) (v : Value) (l : List Int) : Prop := RowI A B w v l ∧ B ≤ w.heap.size
theorem OwnS.step {A B : Nat} {w w' : World} {v : Value} {l : List Int} (h : OwnS A B w v l) (hb : Below w.heap.size w w') : OwnS A B w' v l :=
  ⟨h.1.same (SameIn.of_below hb h.2), Nat.le_trans h.2 hb.size⟩
theorem OwnS.only {A B C D : Nat} {w w' : World} {v : Value} {l : List Int} (h : OwnS A B w v l) (ho : Only C D w w') (hd : B ≤ C ∨ D ≤ A) : OwnS A B w' v l :=
  ⟨h.1.same (ho.sameIn hd), by rw [ho.size]; exact h.2⟩
theorem OwnS.rowB {A B : Nat} {w : World} {v : Value} {l : List Int} (h : OwnS A B w v l) : RowB B w v l := h.1.rowB
theorem fit_of_small {m : List (List Int)} (h : Small m) : RowsFit m := ⟨by have := h.1; unfold maxLen; omega, fun j hj => by have := h.2 j hj; unfold maxLen; omega⟩

/-- What a call that makes a matrix leaves. -/
def MakesM (w : World) (m : List (List Int)) (e : Ending) (w' : World) : Prop := ∃ x, e = .returned x ∧ OwnM w.heap.size w'.heap.size w' x m ∧ Below w.heap.size w w'
def MakesS (w : World) (l : List Int) (e : Ending) (w' : World) : Prop := ∃ x, e = .returned x ∧ OwnS w.heap.size w'.heap.size w' x l ∧ Below w.heap.size w w'
/-- The same with a second result. -/
def MakesM2 (w : World) (m : List (List Int)) (y : Value) (e : Ending) (w' : World) : Prop := ∃ x, e = .returned (.tuple #[x, y]) ∧ OwnM w.heap.size w'.heap.size w' x m ∧ Below w.heap.size w w'
def MakesS2 (w : World) (l : List Int) (y : Value) (e : Ending) (w' : World) : Prop := ∃ x, e = .returned (.tuple #[x, y]) ∧ OwnS w.heap.size w'.heap.size w' x l ∧ Below w.heap.size w w'

theorem toM_own (B : Nat) (v : Value) (m : List (List Int)) (w : World) (h : MatB B w v m) (hB : B ≤ w.heap.size) (hs : Small m) :
    Calls Try.prog 34 #[v] w (MakesM w m) :=
  (toSS_any B v m w h hB hs).mono fun e w' ⟨he, hc, hb⟩ => ⟨_, he, ⟨by have h2 := hc.matI hs; have := hc.2.1; exact h2.mono (Nat.le_refl _) (by omega), Nat.le_refl _⟩, hb⟩
theorem toL_own (B : Nat) (v : Value) (l : List Int) (w : World) (h : RowB B w v l) (hB : B ≤ w.heap.size) (hs : l.length ≤ 1048576) :
    Calls Try.prog 35 #[v] w (MakesS w l) :=
  (toS_any B v l w h hB hs).mono fun e w' ⟨he, hw⟩ => by
    subst hw
    refine ⟨_, he, ⟨⟨⟨by rw [intsV_len]; omega, Or.inr ⟨w.heap.size, l.length, _, rfl, Nat.le_refl _, (MapKept.heap_alloc w _).1, Nat.le_refl _, by unfold maxLen; omega, by simp [intsV_len], ?_⟩⟩, fun g hg => ?_⟩, Nat.le_refl _⟩, (Below.refl _ _).alloc (Nat.le_refl _) _⟩
    · rw [List.take_of_length_le]; simp [intsV_len]
    · have : w.heap.size = g := by simpa [Value.ownBlock] using hg
      simp; omega
/-- Marks in a matrix of the call's own. -/
def Marks (A B : Nat) (m : List (List Int)) (k : Nat) (v : Value) (w : World) (e : Ending) (w' : World) : Prop :=
  e = .returned (.int .i64 ((k + (m.map List.length).sum : Nat) : Int)) ∧ OwnM A B w' v (markM m k) ∧ Only A B w w'
theorem markM_own (A B : Nat) (v : Value) (m : List (List Int)) (k : Nat) (w : World) (h : OwnM A B w v m) (hs : szSum m ≤ 1048576) (hk : k ≤ 4194304) :
    Calls Try.prog 40 #[v, .int .i64 k] w (Marks A B m k v w) :=
  (markSS_any A B v m k w h.1 (by unfold szSum at hs; omega) (by unfold szSum at hs; omega)).mono fun e w' ⟨h1, h2, h3⟩ => ⟨h1, ⟨h2, by rw [h3.size]; exact h.2⟩, h3⟩
def MarksS (A B : Nat) (l : List Int) (k : Nat) (v : Value) (w : World) (e : Ending) (w' : World) : Prop :=
  e = .returned (.int .i64 ((k + l.length : Nat) : Int)) ∧ OwnS A B w' v (markL k l.length) ∧ Only A B w w'
theorem markL_own (A B : Nat) (v : Value) (l : List Int) (k : Nat) (w : World) (h : OwnS A B w v l) (hs : l.length ≤ 4194304) (hk : k ≤ 4194304) :
    Calls Try.prog 38 #[v, .int .i64 k] w (MarksS A B l k v w) :=
  (markS_any A B v l k w h.1 (by omega)).mono fun e w' ⟨h1, h2, h3, h4⟩ => by
    have ho : Only A B w w' := Only.of_grown h3 h4 (fun g hg => ⟨(h.1.1.lt g hg).1, h.1.2 g hg⟩)
    exact ⟨h1, ⟨h2, by rw [ho.size]; exact h.2⟩, ho⟩
theorem heldL_own (B : Nat) (v : Value) (n k : Nat) (w : World) (h : RowB B w v (markL k n)) (hs : n ≤ 4194304) (hk : k ≤ 4194304) :
    Calls Try.prog 39 #[v, .int .i64 k] w fun e w' => e = .returned (.int .i64 ((k + n : Nat) : Int)) ∧ w = w' :=
  heldS_any B v n k w h (by omega)

/-- Equality, as the laws ask it: both the same. -/
theorem eqM_same (B B' : Nat) (v v' : Value) (m : List (List Int)) (w : World) (h : MatB B w v m) (h' : MatB B' w v' m) (hf : RowsFit m) :
    Calls Try.prog 36 #[v, v'] w fun e w' => e = .returned (.bool true) ∧ ∃ q, w' = w.drewN q :=
  (eqSS_any (max B B') v v' m m w (h.mono (Nat.le_max_left _ _)) (h'.mono (Nat.le_max_right _ _)) hf hf).mono fun e w' ⟨h1, h2⟩ => ⟨by rw [h1, eqM_yes rfl], h2⟩
theorem eqL_same (B B' : Nat) (v v' : Value) (l : List Int) (w : World) (h : RowB B w v l) (h' : RowB B' w v' l) (hf : l.length ≤ maxLen) :
    Calls Try.prog 37 #[v, v'] w fun e w' => e = .returned (.bool true) ∧ ∃ q, w' = w.drewN q :=
  (eqS_any (max B B') v v' l l w (h.mono (Nat.le_max_left _ _)) (h'.mono (Nat.le_max_right _ _)) hf hf).mono fun e w' ⟨h1, h2⟩ => ⟨by rw [h1, eqL_yes rfl], h2⟩
end Go.Proofs.Ytbmghddmilgngaa
namespace Go.Proofs.Ytbmghddmilgngaa
open Go.RowKit

/-- 'append(s, u)' of one element of one cell: what the literal and the law leave, together. -/
theorem append_hdr {P : Program} {ops : Array Oper} {rest : List Oper} {o : Oper} {a : Act} {Q : Exit → Act → World → Prop} (hgd : o.guard = none) (s x : Operand) (t : TypeId)
    (ho : o.op = .call { callee := .builtin .append, args := #[s, x], argTypes := #[t, t] })
    (base : Nat) (e : TypeId) (i : TypeInfo) (z : Value) (bytes : Nat) (ht : P.underlying t = some (.slice e)) (hi : P.info? e = some i) (hz : i.zero = some z)
    (hsize : i.size = 1) (hby : i.bytes = bytes) (hzs : z.cells.size = 1)
    (v : Value) (xs : List Value) (u : Value) (hu : u.oneCell' = true) (wr : World) (hs : a.eval s = v) (hown : wr.ownsRow base e 1 v xs.length xs)
    (hx : a.eval x = .slice (some ⟨wr.heap.size, 0, none⟩) 1 1) (hlen : (xs.length + 1) * bytes ≤ 140737488355328) (hb1 : 1 ≤ bytes) (hbase : base ≤ wr.heap.size)
    (h : ∀ v' w', w'.ownsRow base e 1 v' (xs ++ [u]).length (xs ++ [u]) → wr.grownBy w' v.ownBlock → wpList P ops Q rest (a.put o.dst v') w') :
    wpList P ops Q (o :: rest) a (wr.alloc (.cells #[u] e)) := by
  have hmul : xs.length + 1 ≤ (xs.length + 1) * bytes := Nat.le_mul_of_pos_right _ hb1
  refine wpList_append_own _ hgd s x t ho base e i z 1 bytes ht hi hz hsize hby hzs (by omega) v xs.length xs hs (hown.alloc _) ⟨wr.heap.size, 0, none⟩ 1 1 [u] hx rfl ?_ ?_ ?_ ?_ ?_ ?_
  · intro j u' hj
    match j, hj with
    | 0, hj =>
      simp at hj
      subst hj
      rw [show (⟨wr.heap.size, 0, none⟩ : Addr).add 0 = ⟨wr.heap.size, 0, none⟩ from rfl, World.cell?_alloc_at _ _ _ _ rfl]
      rfl
    | j + 1, hj => simp at hj
  · intro u' hu'
    simp at hu'
    subst hu'
    exact hu
  · unfold maxLen; omega
  · exact hlen
  · simp; omega
  · intro v' w' ho' hg _
    refine h v' w' (by simpa using ho') ⟨hg.os, hg.tape, hg.output, by have := hg.size; simp at this; omega, fun k hk hn => ?_⟩
    rw [hg.block k (by simp; omega) hn]
    exact (MapKept.heap_alloc wr _).2 k hk

/-- What is kept of a row when blocks are added, or another row is written. -/
theorem RowI.grown {A B : Nat} {w w' : World} {v : Value} {l : List Int} {S : Option Nat} (h : RowI A B w v l) (hg : w.grownBy w' S) (hne : v.ownBlock = none ∨ v.ownBlock ≠ S) : RowI A B w' v l := h.kept hg hne

theorem mat_snoc {A B : Nat} {w w' : World} {v v' rv : Value} {m : List (List Int)} {l : List Int} {hs : List Value}
    (h1 : w.ownsRow A 25 1 v m.length hs) (h2 : ∀ g, v.ownBlock = some g → g < B) (h3 : ∀ j (h : j < m.length), ∃ hv, hs[j]? = some hv ∧ RowI A B w hv m[j])
    (h4 : ∀ (i j : Nat) (x y : Value), i ≠ j → hs[i]? = some x → hs[j]? = some y → x.ownBlock = none ∨ x.ownBlock ≠ y.ownBlock)
    (hr : RowI B w.heap.size w rv l) (hAB : A ≤ B) (hBw : B ≤ w.heap.size) (ho : w'.ownsRow A 25 1 v' (hs ++ [rv]).length (hs ++ [rv])) (hg : w.grownBy w' v.ownBlock) :
    MatI A w'.heap.size w' v' (m ++ [l]) := by
  have hlen : hs.length = m.length := by have := h1.1; omega
  refine ⟨hs ++ [rv], ?_, fun g hgg => (ho.lt g hgg).2, fun j hj => ?_, ?_⟩
  · have : (m ++ [l]).length = (hs ++ [rv]).length := by simp [hlen]
    rw [this]; exact ho
  · by_cases hjm : j < m.length
    · obtain ⟨hv, h5, h6⟩ := h3 j hjm
      refine ⟨hv, by rw [List.getElem?_append_left (by omega)]; exact h5, ?_⟩
      rw [List.getElem_append_left hjm]
      have hne : hv.ownBlock = none ∨ hv.ownBlock ≠ v.ownBlock := by
        rcases own_other h6.1 h1 with h | h
        · cases hhv : hv.ownBlock with
          | none => exact Or.inl rfl
          | some g => exact Or.inr (by rw [h]; simp)
        · exact Or.inr (fun e => h e.symm)
      exact (h6.kept hg hne).mono (Nat.le_refl _) (by have := hg.size; omega)
    · have hj' : j = m.length := by simp at hj; omega
      subst hj'
      refine ⟨rv, by rw [List.getElem?_append_right (by omega), hlen]; simp, ?_⟩
      rw [List.getElem_append_right (Nat.le_refl _)]
      simp only [Nat.sub_self, List.getElem_cons_zero]
      have hne : rv.ownBlock = none ∨ rv.ownBlock ≠ v.ownBlock := by
        cases hv : v.ownBlock with
        | none => 
          cases hrv : rv.ownBlock with
          | none => exact Or.inl rfl
          | some g => exact Or.inr (by simp)
        | some g =>
          right
          intro e
          have := (hr.1.lt g e).1
          have := h2 g hv
          omega
      exact (hr.kept hg hne).mono hAB (by have := hg.size; omega)
  · intro i j x y hij hx hy
    have hi : i < (hs ++ [rv]).length := (List.getElem?_eq_some_iff.1 hx).1
    have hj : j < (hs ++ [rv]).length := (List.getElem?_eq_some_iff.1 hy).1
    rw [List.length_append, List.length_singleton] at hi hj
    by_cases hi' : i < hs.length
    · rw [List.getElem?_append_left hi'] at hx
      by_cases hj' : j < hs.length
      · rw [List.getElem?_append_left hj'] at hy
        exact h4 i j x y hij hx hy
      · rw [List.getElem?_append_right (by omega), show j - hs.length = 0 by omega] at hy
        obtain rfl : rv = y := by simpa using hy
        obtain ⟨hv, h5, h6⟩ := h3 i (by omega)
        obtain rfl : x = hv := Option.some.inj (hx.symm.trans h5)
        cases hb : x.ownBlock with
        | none => exact Or.inl rfl
        | some g =>
          right
          intro e
          have := h6.2 g hb
          have := (hr.1.lt g e.symm).1
          omega
    · rw [List.getElem?_append_right (by omega), show i - hs.length = 0 by omega] at hx
      obtain rfl : rv = x := by simpa using hx
      have hj' : j < hs.length := by omega
      rw [List.getElem?_append_left hj'] at hy
      obtain ⟨hv, h5, h6⟩ := h3 j (by omega)
      obtain rfl : y = hv := Option.some.inj (hy.symm.trans h5)
      cases hb : rv.ownBlock with
      | none => exact Or.inl rfl
      | some g =>
        right
        intro e
        have := (hr.1.lt g hb).1
        have := h6.2 g e.symm
        omega

/-- 'out = append(out, row)': a row that lies behind the matrix's own blocks. -/
theorem append_row {ops : Array Oper} {rest : List Oper} {o : Oper} {a : Act} {Q : Exit → Act → World → Prop} {s x : Operand} {A B : Nat} {v rv : Value} {m : List (List Int)} {l : List Int} {wr : World}
    (hM : MatI A B wr v m) (hr : RowI B wr.heap.size wr rv l) (hAB : A ≤ B) (hBw : B ≤ wr.heap.size) (hgd : o.guard = none)
    (ho : o.op = .call { callee := .builtin .append, args := #[s, x], argTypes := #[24, 24] }) (hs : a.eval s = v)
    (hx : a.eval x = .slice (some ⟨wr.heap.size, 0, none⟩) 1 1) (hlen : m.length ≤ 1048576)
    (h : ∀ v' w', MatI A w'.heap.size w' v' (m ++ [l]) → (∀ W C, C ≤ A → Below C W wr → Below C W w') → wr.heap.size ≤ w'.heap.size → wpList Try.prog ops Q rest (a.put o.dst v') w') :
    wpList Try.prog ops Q (o :: rest) a (wr.alloc (.cells #[rv] 25)) := by
  obtain ⟨hh, h1, h2, h3, h4⟩ := hM
  have hll : hh.length = m.length := by have := h1.1; omega
  obtain ⟨i0, hi, hz0, hz1, hz2⟩ := info_parts Try.infoRow
  have h1' : wr.ownsRow A 25 1 v hh.length hh := by rw [hll]; exact h1
  have hone : rv.oneCell' = true := by
    obtain ⟨ra, rcap, rfl⟩ := hr.slice
    rfl
  refine append_hdr hgd _ _ 24 ho A 25 i0 (.slice none 0 0) 24 Try.underlying24 hi hz0 hz1 hz2 rfl v hh rv hone wr hs h1' hx (by omega) (by omega) (by omega) ?_
  intro v' w' ho' hg
  refine h v' w' (mat_snoc h1 h2 h3 h4 hr hAB hBw ho' hg) (fun W C hC hb => ?_) hg.size
  exact hb.grown hg (by omega) (fun k hk => by have := (h1.lt k hk).1; omega)

/-- 'row = append(row, x)': an int. -/
theorem append_int {ops : Array Oper} {rest : List Oper} {o : Oper} {a : Act} {Q : Exit → Act → World → Prop} {s x : Operand} {A : Nat} {v : Value} {l : List Int} {wr : World}
    (hM : RowI A wr.heap.size wr v l) (hA : A ≤ wr.heap.size) (n : Int) (hgd : o.guard = none)
    (ho : o.op = .call { callee := .builtin .append, args := #[s, x], argTypes := #[25, 25] }) (hs : a.eval s = v)
    (hx : a.eval x = .slice (some ⟨wr.heap.size, 0, none⟩) 1 1) (hlen : l.length ≤ 4194304)
    (h : ∀ v' w', RowI A w'.heap.size w' v' (l ++ [n]) → (∀ W C, C ≤ A → Below C W wr → Below C W w') → wr.heap.size ≤ w'.heap.size → wpList Try.prog ops Q rest (a.put o.dst v') w') :
    wpList Try.prog ops Q (o :: rest) a (wr.alloc (.cells #[.int .i64 n] 3)) := by
  obtain ⟨h1, h2⟩ := hM
  obtain ⟨i0, hi, hz0, hz1, hz2⟩ := info_parts Try.infoInt
  have h1' : wr.ownsRow A 3 1 v (intsV l).length (intsV l) := by rw [intsV_len]; exact h1
  refine append_hdr hgd _ _ 25 ho A 3 i0 (.int .i64 0) 8 Try.underlying25 hi hz0 hz1 hz2 rfl v (intsV l) (.int .i64 n) rfl wr hs h1' hx (by rw [intsV_len]; omega) (by omega) hA ?_
  intro v' w' ho' hg
  refine h v' w' ⟨?_, fun g hgg => (ho'.lt g hgg).2⟩ (fun W C hC hb => ?_) hg.size
  · have e : intsV l ++ [.int .i64 n] = intsV (l ++ [n]) := by simp [intsV]
    rw [e, intsV_len] at ho'
    exact ho'
  · exact hb.grown hg (by omega) (fun k hk => by have := (h1.lt k hk).1; omega)

/-- An empty literal. -/
theorem row_empty (w : World) : RowI w.heap.size (w.alloc (.cells #[] 3)).heap.size (w.alloc (.cells #[] 3)) (.slice (some ⟨w.heap.size, 0, none⟩) 0 0) [] :=
  ⟨World.ownsRow_lit w #[] 0 (Nat.le_refl _) (by unfold maxLen; omega) rfl, fun g hg => by
    have : w.heap.size = g := by simpa [Value.ownBlock] using hg
    simp; omega⟩
theorem mat_empty (w : World) : MatI w.heap.size (w.alloc (.cells #[] 25)).heap.size (w.alloc (.cells #[] 25)) (.slice (some ⟨w.heap.size, 0, none⟩) 0 0) [] :=
  ⟨[], World.ownsRow_lit w #[] 0 (Nat.le_refl _) (by unfold maxLen; omega) rfl, fun g hg => by
    have : w.heap.size = g := by simpa [Value.ownBlock] using hg
    simp; omega, fun j hj => by simp at hj, fun i j x y _ h => by simp at h⟩

/-! ### Entries of a matrix of the call's own -/
def set2 (m : List (List Int)) (j c : Nat) (x : Int) : List (List Int) := m.set j ((m.getD j []).set c x)
theorem set2_len (m : List (List Int)) (j c : Nat) (x : Int) : (set2 m j c x).length = m.length := by simp [set2]
theorem set2_at (m : List (List Int)) (j c : Nat) (x : Int) (h : j < (set2 m j c x).length) : (set2 m j c x)[j] = (m.getD j []).set c x := by simp [set2]
theorem set2_ne (m : List (List Int)) (j c i : Nat) (x : Int) (h : i < (set2 m j c x).length) (hi : i < m.length) (hne : i ≠ j) : (set2 m j c x)[i] = m[i] := by
  simp only [set2]; rw [List.getElem_set_ne (fun e => hne e.symm)]

/-- One entry of a matrix of the call's own: where it lies, and what a store into it leaves. -/
theorem MatI.put {A B : Nat} {w : World} {a : Option Addr} {n cap : Nat} {m : List (List Int)} (h : MatI A B w (.slice a n cap) m) {j c : Nat} (hj : j < m.length) (hc : c < (m.getD j []).length) :
    ∃ g r rcap, a = some ⟨g, 0, none⟩ ∧ w.cell? ⟨g, j, none⟩ = some (.slice (some ⟨r, 0, none⟩) (m.getD j []).length rcap) ∧ w.cell? ⟨r, c, none⟩ = some (.int .i64 ((m.getD j []).getD c 0)) ∧ w.frozen? ⟨r, c, none⟩ = false ∧ A ≤ r ∧ r < B ∧
      ∀ x, MatI A B (w.setCell ⟨r, c, none⟩ (.int .i64 x)) (.slice a n cap) (set2 m j c x) := by
  obtain ⟨hs, h1, h2, h3, h4⟩ := h
  have hgd : m.getD j [] = m[j] := (by simp [List.getD, hj])
  rw [hgd] at hc ⊢
  obtain ⟨hv, h5, h6⟩ := h3 j hj
  rcases h1.2 with ⟨hnil, h0⟩ | ⟨g, cap', cur, hval, hA, hg, _⟩
  · omega
  have ha : a = some ⟨g, 0, none⟩ := by injection hval
  have hn : n = m.length := by injection hval
  subst ha
  subst hn
  rcases h6.1.2 with ⟨_, h0⟩ | ⟨r, rcap, rcur, rfl, hrA, hrg, _⟩
  · omega
  refine ⟨g, r, rcap, rfl, ?_, ?_, ?_, hrA, h6.2 r rfl, fun x => ?_⟩
  · rw [h1.cellAt j (by omega)]; exact h5
  · rw [h6.1.cellAt c (by omega)]
    simp [intsV, List.getD, hc]
  · exact h6.1.frozenAt c
  · obtain ⟨ho, hgr⟩ := h6.1.stored c (.int .i64 x)
    rw [intsV_set] at ho
    have hrow : RowI A B (w.setCell ⟨r, c, none⟩ (.int .i64 x)) (.slice (some ⟨r, 0, none⟩) m[j].length rcap) (m[j].set c x) := ⟨by rw [List.length_set]; exact ho, h6.2⟩
    have hl := set2_len m j c x
    have h7 := mat_row (m' := set2 m j c x) h1 h3 h4 h5 hgr hl (by rw [hgd]; exact h6.1) (fun hj' => by
      rw [set2_at, hgd]; exact hrow) (fun i hi hne => ⟨by omega, set2_ne _ _ _ _ _ _ hi hne⟩)
    exact ⟨hs, h7.1, h2, h7.2, h4⟩

/-- A matrix under way: all of it lies below the heap's end. -/
theorem MatI.step {A : Nat} {w w' : World} {v : Value} {m : List (List Int)} (h : MatI A w.heap.size w v m) (hb : Below w.heap.size w w') : MatI A w'.heap.size w' v m :=
  (h.same (SameIn.of_below hb (Nat.le_refl _))).mono (Nat.le_refl _) hb.size
theorem RowI.step {A : Nat} {w w' : World} {v : Value} {l : List Int} (h : RowI A w.heap.size w v l) (hb : Below w.heap.size w w') : RowI A w'.heap.size w' v l :=
  (h.same (SameIn.of_below hb (Nat.le_refl _))).mono (Nat.le_refl _) hb.size
/-- The value is a slice, of whatever length's spelling. -/
theorem RowI.slice3 {A B : Nat} {w : World} {v : Value} {l : List Int} (h : RowI A B w v l) : ∃ a n cap, v = .slice a n cap := by
  obtain ⟨a, cap, h⟩ := h.slice; exact ⟨a, _, cap, h⟩
end Go.Proofs.Ytbmghddmilgngaa
