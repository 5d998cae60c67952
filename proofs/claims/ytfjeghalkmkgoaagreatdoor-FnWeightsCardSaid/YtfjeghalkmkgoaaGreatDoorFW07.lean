/-
  Matrices that the call itself builds, row by row or entry by entry.
  TransposeCartan of the model: what the call returns.
  A row of a square matrix that came in: its header and its cells.
  TransposeCartan of the program: what the call returns.
-/
import Derived.Test.YtfjeghalkmkgoaaGreatDoorFW06
import Derived.Test.YtfjeghalkmkgoaaGreatDoorFW05
import Derived.Test.YtfjeghalkmkgoaaGreatDoorFW04
namespace Go.Proofs.YtfjeghalkmkgoaaGreatDoor
open Go.RowKit

/-- 'append(s, u)' of one element of one cell: what the literal and the law leave, together. -/
theorem append_hdr {P : Program} {ops : Array Oper} {rest : List Oper} {o : Oper} {a : Act} {Q : Exit → Act → World → Prop} (hgd : o.guard = none) (s x : Operand) (t : TypeId)
    (ho : o.op = .call { callee := .builtin .append, args := #[s, x], argTypes := #[t, t] })
    (base : Nat) (e : TypeId) (i : TypeInfo) (z : Value) (bytes : Nat) (ht : P.underlying t = some (.slice e)) (hi : P.info? e = some i) (hz : i.zero = some z)
    (hsize : i.size = 1) (hby : i.bytes = bytes) (hzs : z.cells.size = 1)
    (v : Value) (xs : List Value) (u : Value) (hu : u.oneCell' = true) (wr : World) (hs : a.eval s = v) (hown : wr.ownsRow base e 1 v xs.length xs)
    (hx : a.eval x = .slice (some ⟨wr.heap.size, 0, none⟩) 1 1) (hlen : (xs.length + 1) * bytes ≤ 140737488355328) (hb1 : 1 ≤ bytes) (hbase : base ≤ wr.heap.size)
    (h : ∀ v' w', w'.ownsRow base e 1 v' (xs ++ [u]).length (xs ++ [u]) → wr.grownBy w' v.ownBlock → wpList P ops Q rest (a.put o.dst v') w') :
    wpList P ops Q (o :: rest) a (wr.alloc (.cells #[u] e)) := by
  have hmul : xs.length + 1 ≤ (xs.length + 1) * bytes := Nat.le_mul_of_pos_right _ hb1
  refine wpList_append_own _ hgd s x t ho base e i z 1 bytes ht hi hz hsize hby hzs (by omega) v xs.length xs hs (hown.alloc _) ⟨wr.heap.size, 0, none⟩ 1 1 [u] hx rfl ?_ ?_ ?_ ?_ ?_ ?_
  · intro j u' hj
    match j, hj with
    | 0, hj =>
      simp at hj
      subst hj
      rw [show (⟨wr.heap.size, 0, none⟩ : Addr).add 0 = ⟨wr.heap.size, 0, none⟩ from rfl, World.cell?_alloc_at _ _ _ _ rfl]
      rfl
    | j + 1, hj => simp at hj
  · intro u' hu'
    simp at hu'
    subst hu'
    exact hu
  · unfold maxLen; omega
  · exact hlen
  · simp; omega
  · intro v' w' ho' hg _
    refine h v' w' (by simpa using ho') ⟨hg.os, hg.tape, hg.output, by have := hg.size; simp at this; omega, fun k hk hn => ?_⟩
    rw [hg.block k (by simp; omega) hn]
    exact (MapKept.heap_alloc wr _).2 k hk

/-- What is kept of a row when blocks are added, or another row is written. -/
theorem RowI.grown {A B : Nat} {w w' : World} {v : Value} {l : List Int} {S : Option Nat} (h : RowI A B w v l) (hg : w.grownBy w' S) (hne : v.ownBlock = none ∨ v.ownBlock ≠ S) : RowI A B w' v l := h.kept hg hne

theorem mat_snoc {A B : Nat} {w w' : World} {v v' rv : Value} {m : List (List Int)} {l : List Int} {hs : List Value}
    (h1 : w.ownsRow A 25 1 v m.length hs) (h2 : ∀ g, v.ownBlock = some g → g < B) (h3 : ∀ j (h : j < m.length), ∃ hv, hs[j]? = some hv ∧ RowI A B w hv m[j])
    (h4 : ∀ (i j : Nat) (x y : Value), i ≠ j → hs[i]? = some x → hs[j]? = some y → x.ownBlock = none ∨ x.ownBlock ≠ y.ownBlock)
    (hr : RowI B w.heap.size w rv l) (hAB : A ≤ B) (hBw : B ≤ w.heap.size) (ho : w'.ownsRow A 25 1 v' (hs ++ [rv]).length (hs ++ [rv])) (hg : w.grownBy w' v.ownBlock) :
    MatI A w'.heap.size w' v' (m ++ [l]) := by
  have hlen : hs.length = m.length := by have := h1.1; omega
  refine ⟨hs ++ [rv], ?_, fun g hgg => (ho.lt g hgg).2, fun j hj => ?_, ?_⟩
  · have : (m ++ [l]).length = (hs ++ [rv]).length := by simp [hlen]
    rw [this]; exact ho
  · by_cases hjm : j < m.length
    · obtain ⟨hv, h5, h6⟩ := h3 j hjm
      refine ⟨hv, by rw [List.getElem?_append_left (by omega)]; exact h5, ?_⟩
      rw [List.getElem_append_left hjm]
      have hne : hv.ownBlock = none ∨ hv.ownBlock ≠ v.ownBlock := by
        rcases own_other h6.1 h1 with h | h
        · cases hhv : hv.ownBlock with
          | none => exact Or.inl rfl
          | some g => exact Or.inr (by rw [h]; simp)
        · exact Or.inr (fun e => h e.symm)
      exact (h6.kept hg hne).mono (Nat.le_refl _) (by have := hg.size; omega)
    · have hj' : j = m.length := by simp at hj; omega
      subst hj'
      refine ⟨rv, by rw [List.getElem?_append_right (by omega), hlen]; simp, ?_⟩
      rw [List.getElem_append_right (Nat.le_refl _)]
      simp only [Nat.sub_self, List.getElem_cons_zero]
      have hne : rv.ownBlock = none ∨ rv.ownBlock ≠ v.ownBlock := by
        cases hv : v.ownBlock with
        | none => 
          cases hrv : rv.ownBlock with
          | none => exact Or.inl rfl
          | some g => exact Or.inr (by simp)
        | some g =>
          right
          intro e
          have := (hr.1.lt g e).1
          have := h2 g hv
          omega
      exact (hr.kept hg hne).mono hAB (by have := hg.size; omega)
  · intro i j x y hij hx hy
    have hi : i < (hs ++ [rv]).length := (List.getElem?_eq_some_iff.1 hx).1
    have hj : j < (hs ++ [rv]).length := (List.getElem?_eq_some_iff.1 hy).1
    rw [List.length_append, List.length_singleton] at hi hj
    by_cases hi' : i < hs.length
    · rw [List.getElem?_append_left hi'] at hx
      by_cases hj' : j < hs.length
      · rw [List.getElem?_append_left hj'] at hy
        exact h4 i j x y hij hx hy
      · rw [List.getElem?_append_right (by omega), show j - hs.length = 0 by omega] at hy
        obtain rfl : rv = y := by simpa using hy
        obtain ⟨hv, h5, h6⟩ := h3 i (by omega)
        obtain rfl : x = hv := Option.some.inj (hx.symm.trans h5)
        cases hb : x.ownBlock with
        | none => exact Or.inl rfl
        | some g =>
          right
          intro e
          have := h6.2 g hb
          have := (hr.1.lt g e.symm).1
          omega
    · rw [List.getElem?_append_right (by omega), show i - hs.length = 0 by omega] at hx
      obtain rfl : rv = x := by simpa using hx
      have hj' : j < hs.length := by omega
      rw [List.getElem?_append_left hj'] at hy
      obtain ⟨hv, h5, h6⟩ := h3 j (by omega)
      obtain rfl : y = hv := Option.some.inj (hy.symm.trans h5)
      cases hb : rv.ownBlock with
      | none => exact Or.inl rfl
      | some g =>
        right
        intro e
        have := (hr.1.lt g hb).1
        have := h6.2 g e.symm
        omega

/-- 'out = append(out, row)': a row that lies behind the matrix's own blocks. -/
theorem append_row {ops : Array Oper} {rest : List Oper} {o : Oper} {a : Act} {Q : Exit → Act → World → Prop} {s x : Operand} {A B : Nat} {v rv : Value} {m : List (List Int)} {l : List Int} {wr : World}
    (hM : MatI A B wr v m) (hr : RowI B wr.heap.size wr rv l) (hAB : A ≤ B) (hBw : B ≤ wr.heap.size) (hgd : o.guard = none)
    (ho : o.op = .call { callee := .builtin .append, args := #[s, x], argTypes := #[24, 24] }) (hs : a.eval s = v)
    (hx : a.eval x = .slice (some ⟨wr.heap.size, 0, none⟩) 1 1) (hlen : m.length ≤ 1048576)
    (h : ∀ v' w', MatI A w'.heap.size w' v' (m ++ [l]) → (∀ W C, C ≤ A → Below C W wr → Below C W w') → wr.heap.size ≤ w'.heap.size → wpList Tryz.prog ops Q rest (a.put o.dst v') w') :
    wpList Tryz.prog ops Q (o :: rest) a (wr.alloc (.cells #[rv] 25)) := by
  obtain ⟨hh, h1, h2, h3, h4⟩ := hM
  have hll : hh.length = m.length := by have := h1.1; omega
  obtain ⟨i0, hi, hz0, hz1, hz2⟩ := info_parts Tryz.infoRow
  have h1' : wr.ownsRow A 25 1 v hh.length hh := by rw [hll]; exact h1
  have hone : rv.oneCell' = true := by
    obtain ⟨ra, rcap, rfl⟩ := hr.slice
    rfl
  refine append_hdr hgd _ _ 24 ho A 25 i0 (.slice none 0 0) 24 Tryz.underlying24 hi hz0 hz1 hz2 rfl v hh rv hone wr hs h1' hx (by omega) (by omega) (by omega) ?_
  intro v' w' ho' hg
  refine h v' w' (mat_snoc h1 h2 h3 h4 hr hAB hBw ho' hg) (fun W C hC hb => ?_) hg.size
  exact hb.grown hg (by omega) (fun k hk => by have := (h1.lt k hk).1; omega)

/-- 'row = append(row, x)': an int. -/
theorem append_int {ops : Array Oper} {rest : List Oper} {o : Oper} {a : Act} {Q : Exit → Act → World → Prop} {s x : Operand} {A : Nat} {v : Value} {l : List Int} {wr : World}
    (hM : RowI A wr.heap.size wr v l) (hA : A ≤ wr.heap.size) (n : Int) (hgd : o.guard = none)
    (ho : o.op = .call { callee := .builtin .append, args := #[s, x], argTypes := #[25, 25] }) (hs : a.eval s = v)
    (hx : a.eval x = .slice (some ⟨wr.heap.size, 0, none⟩) 1 1) (hlen : l.length ≤ 4194304)
    (h : ∀ v' w', RowI A w'.heap.size w' v' (l ++ [n]) → (∀ W C, C ≤ A → Below C W wr → Below C W w') → wr.heap.size ≤ w'.heap.size → wpList Tryz.prog ops Q rest (a.put o.dst v') w') :
    wpList Tryz.prog ops Q (o :: rest) a (wr.alloc (.cells #[.int .i64 n] 3)) := by
  obtain ⟨h1, h2⟩ := hM
  obtain ⟨i0, hi, hz0, hz1, hz2⟩ := info_parts Tryz.infoInt
  have h1' : wr.ownsRow A 3 1 v (intsV l).length (intsV l) := by rw [intsV_len]; exact h1
  refine append_hdr hgd _ _ 25 ho A 3 i0 (.int .i64 0) 8 Tryz.underlying25 hi hz0 hz1 hz2 rfl v (intsV l) (.int .i64 n) rfl wr hs h1' hx (by rw [intsV_len]; omega) (by omega) hA ?_
  intro v' w' ho' hg
  refine h v' w' ⟨?_, fun g hgg => (ho'.lt g hgg).2⟩ (fun W C hC hb => ?_) hg.size
  · have e : intsV l ++ [.int .i64 n] = intsV (l ++ [n]) := by simp [intsV]
    rw [e, intsV_len] at ho'
    exact ho'
  · exact hb.grown hg (by omega) (fun k hk => by have := (h1.lt k hk).1; omega)

/-- An empty literal. -/
theorem row_empty (w : World) : RowI w.heap.size (w.alloc (.cells #[] 3)).heap.size (w.alloc (.cells #[] 3)) (.slice (some ⟨w.heap.size, 0, none⟩) 0 0) [] :=
  ⟨World.ownsRow_lit w #[] 0 (Nat.le_refl _) (by unfold maxLen; omega) rfl, fun g hg => by
    have : w.heap.size = g := by simpa [Value.ownBlock] using hg
    simp; omega⟩
theorem mat_empty (w : World) : MatI w.heap.size (w.alloc (.cells #[] 25)).heap.size (w.alloc (.cells #[] 25)) (.slice (some ⟨w.heap.size, 0, none⟩) 0 0) [] :=
  ⟨[], World.ownsRow_lit w #[] 0 (Nat.le_refl _) (by unfold maxLen; omega) rfl, fun g hg => by
    have : w.heap.size = g := by simpa [Value.ownBlock] using hg
    simp; omega, fun j hj => by simp at hj, fun i j x y _ h => by simp at h⟩

/-! ### Entries of a matrix of the call's own -/
def set2 (m : List (List Int)) (j c : Nat) (x : Int) : List (List Int) := m.set j ((m.getD j []).set c x)
theorem set2_len (m : List (List Int)) (j c : Nat) (x : Int) : (set2 m j c x).length = m.length := by simp [set2]
theorem set2_at (m : List (List Int)) (j c : Nat) (x : Int) (h : j < (set2 m j c x).length) : (set2 m j c x)[j] = (m.getD j []).set c x := by simp [set2]
theorem set2_ne (m : List (List Int)) (j c i : Nat) (x : Int) (h : i < (set2 m j c x).length) (hi : i < m.length) (hne : i ≠ j) : (set2 m j c x)[i] = m[i] := by
  simp only [set2]; rw [List.getElem_set_ne (fun e => hne e.symm)]

/-- One entry of a matrix of the call's own: where it lies, and what a store into it leaves. -/
theorem MatI.put {A B : Nat} {w : World} {a : Option Addr} {n cap : Nat} {m : List (List Int)} (h : MatI A B w (.slice a n cap) m) {j c : Nat} (hj : j < m.length) (hc : c < (m.getD j []).length) :
    ∃ g r rcap, a = some ⟨g, 0, none⟩ ∧ w.cell? ⟨g, j, none⟩ = some (.slice (some ⟨r, 0, none⟩) (m.getD j []).length rcap) ∧ w.cell? ⟨r, c, none⟩ = some (.int .i64 ((m.getD j []).getD c 0)) ∧ w.frozen? ⟨r, c, none⟩ = false ∧ A ≤ r ∧ r < B ∧
      ∀ x, MatI A B (w.setCell ⟨r, c, none⟩ (.int .i64 x)) (.slice a n cap) (set2 m j c x) := by
  obtain ⟨hs, h1, h2, h3, h4⟩ := h
  have hgd : m.getD j [] = m[j] := (by simp [List.getD, hj])
  rw [hgd] at hc ⊢
  obtain ⟨hv, h5, h6⟩ := h3 j hj
  rcases h1.2 with ⟨hnil, h0⟩ | ⟨g, cap', cur, hval, hA, hg, _⟩
  · omega
  have ha : a = some ⟨g, 0, none⟩ := by injection hval
  have hn : n = m.length := by injection hval
  subst ha
  subst hn
  rcases h6.1.2 with ⟨_, h0⟩ | ⟨r, rcap, rcur, rfl, hrA, hrg, _⟩
  · omega
  refine ⟨g, r, rcap, rfl, ?_, ?_, ?_, hrA, h6.2 r rfl, fun x => ?_⟩
  · rw [h1.cellAt j (by omega)]; exact h5
  · rw [h6.1.cellAt c (by omega)]
    simp [intsV, List.getD, hc]
  · exact h6.1.frozenAt c
  · obtain ⟨ho, hgr⟩ := h6.1.stored c (.int .i64 x)
    rw [intsV_set] at ho
    have hrow : RowI A B (w.setCell ⟨r, c, none⟩ (.int .i64 x)) (.slice (some ⟨r, 0, none⟩) m[j].length rcap) (m[j].set c x) := ⟨by rw [List.length_set]; exact ho, h6.2⟩
    have hl := set2_len m j c x
    have h7 := mat_row (m' := set2 m j c x) h1 h3 h4 h5 hgr hl (by rw [hgd]; exact h6.1) (fun hj' => by
      rw [set2_at, hgd]; exact hrow) (fun i hi hne => ⟨by omega, set2_ne _ _ _ _ _ _ hi hne⟩)
    exact ⟨hs, h7.1, h2, h7.2, h4⟩

/-- A matrix under way: all of it lies below the heap's end. -/
theorem MatI.step {A : Nat} {w w' : World} {v : Value} {m : List (List Int)} (h : MatI A w.heap.size w v m) (hb : Below w.heap.size w w') : MatI A w'.heap.size w' v m :=
  (h.same (SameIn.of_below hb (Nat.le_refl _))).mono (Nat.le_refl _) hb.size
theorem RowI.step {A : Nat} {w w' : World} {v : Value} {l : List Int} (h : RowI A w.heap.size w v l) (hb : Below w.heap.size w w') : RowI A w'.heap.size w' v l :=
  (h.same (SameIn.of_below hb (Nat.le_refl _))).mono (Nat.le_refl _) hb.size
/-- The value is a slice, of whatever length's spelling. -/
theorem RowI.slice3 {A B : Nat} {w : World} {v : Value} {l : List Int} (h : RowI A B w v l) : ∃ a n cap, v = .slice a n cap := by
  obtain ⟨a, cap, h⟩ := h.slice; exact ⟨a, _, cap, h⟩
end Go.Proofs.YtfjeghalkmkgoaaGreatDoor
namespace Go.Proofs.YtfjeghalkmkgoaaGreatDoor
open Go.RowKit

def colR (m : List (List Int)) (n k : Nat) : List Int := (List.range n).map fun j => entry m j k
def trN (m : List (List Int)) (n : Nat) : List (List Int) := (List.range n).map fun i => colR m n i
noncomputable def trM (m : List (List Int)) : List (List Int) := if isB m = true then trN m m.length else []
theorem trM_yes {m : List (List Int)} (h : IsC m) : trM m = trN m m.length := if_pos (isB_yes h)
theorem trM_no {m : List (List Int)} (h : ¬ IsC m) : trM m = [] := by unfold trM; rw [isB_no h]; rfl
theorem colR_len (m : List (List Int)) (n k : Nat) : (colR m n k).length = n := by simp [colR]
theorem trN_len (m : List (List Int)) (n : Nat) : (trN m n).length = n := by simp [trN]
theorem colR_step (m : List (List Int)) (n k c : Nat) (h : c < n) : (colR m n k).take c ++ [entry m c k] = (colR m n k).take (c + 1) := by
  rw [List.take_succ_eq_append_getElem (by rw [colR_len]; exact h)]; simp [colR]
theorem trN_step (m : List (List Int)) (n k : Nat) (h : k < n) : (trN m n).take k ++ [colR m n k] = (trN m n).take (k + 1) := by
  rw [List.take_succ_eq_append_getElem (by rw [trN_len]; exact h)]; simp [trN]
theorem colR_end (m : List (List Int)) (n k : Nat) : (colR m n k).take n = colR m n k := List.take_of_length_le (by rw [colR_len]; exact Nat.le_refl _)
theorem trN_end (m : List (List Int)) (n : Nat) : (trN m n).take n = trN m n := List.take_of_length_le (by rw [trN_len]; exact Nat.le_refl _)
theorem isc_w (B : Nat) (v : Value) (m : List (List Int)) (c : Bool) (hc : isB m = c) (w : World) (h : MatB B w v m) (hf : RowsFit m) :
    Calls Tryz.prog 11 #[v] w fun e w' => e = .returned (.bool c) ∧ Below w.heap.size w w' :=
  (isc_0 B v m c hc w h hf).mono fun e w' ⟨h1, q, h2⟩ => ⟨h1, by rw [h2]; exact below_drewN q⟩
theorem icm_w (B : Nat) (v : Value) (m : List (List Int)) (c : Bool) (hc : isB m = c) (w : World) (h : MatB B w v m) (hf : RowsFit m) :
    Calls Tryz.prog 36 #[v] w fun e w' => e = .returned (.bool c) ∧ Below w.heap.size w w' :=
  (icm_any B v m w h hf).mono fun e w' ⟨h1, q, h2⟩ => ⟨by rw [h1]; exact ret_boolean hc, by rw [h2]; exact below_drewN q⟩
theorem makesM_nil {w w' : World} {x : Value} {m : List (List Int)} (hm : m = []) (h : MatI w.heap.size w'.heap.size w' x []) (hb : Below w.heap.size w w') : MakesM w m (.returned x) w' :=
  ⟨x, rfl, by rw [hm]; exact ⟨h, Nat.le_refl _⟩, hb⟩

end Go.Proofs.YtfjeghalkmkgoaaGreatDoor
namespace Go.Proofs.YtfjeghalkmkgoaaGreatDoor
open Go.RowKit

/-- A row of a square matrix: its header and its cells. -/
theorem MatB.line {B : Nat} {w : World} {a : Option Addr} {n cap : Nat} {m : List (List Int)} (h : MatB B w (.slice a n cap) m) (hr : Rows0 m n n) {i : Nat} (hi : i < n) :
    ∃ b off rb roff rcap, a = some ⟨b, off, none⟩ ∧ b < B ∧ rb < B ∧ w.cell? ⟨b, off + i, none⟩ = some (.slice (some ⟨rb, roff, none⟩) n rcap) ∧ ∀ j, j < n → w.cell? ⟨rb, roff + j, none⟩ = some (.int .i64 (Go.Proofs.YtfjeghalkmkgoaaGreatDoor.entry m i j)) := by
  obtain ⟨b, off, hil, rfl, hb, ra, rcap, hc, hrow⟩ := h.get hi
  have hg := getD_row m i hil
  have hlen : m[i].length = n := by rw [← hg]; exact hr i hi
  rw [hlen] at hc hrow
  obtain ⟨rb, roff, hjl, rfl, hrb, _⟩ := hrow.get (j := 0) (by omega)
  refine ⟨b, off, rb, roff, rcap, rfl, hb, hrb, hc, fun j hj => ?_⟩
  obtain ⟨rb', roff', hjl', he, _, hcell⟩ := hrow.get hj
  injection he with he
  injection he with he1 he2
  subst he1
  subst he2
  rw [hcell]
  unfold Go.Proofs.YtfjeghalkmkgoaaGreatDoor.entry
  rw [hg]
  simp [List.getD, hjl']

end Go.Proofs.YtfjeghalkmkgoaaGreatDoor
namespace Go.Proofs.YtfjeghalkmkgoaaGreatDoor
open Go.RowKit

def zerosR (n : Nat) : List Int := List.replicate n 0
def zeros (n : Nat) : List (List Int) := List.replicate n (zerosR n)
theorem zeros_len (n : Nat) : (zeros n).length = n := by simp [zeros]
theorem zeros_get (n k : Nat) (h : k < (zeros n).length) : (zeros n)[k] = zerosR n := by simp [zeros]
theorem zerosR_len (n : Nat) : (zerosR n).length = n := by simp [zerosR]
theorem zeros_small (n : Nat) (h : n ≤ 1048576) : Small (zeros n) := ⟨by rw [zeros_len]; exact h, fun j hj => by rw [zeros_get, zerosR_len]; exact h⟩

theorem makeInts (n : Nat) (hn : n ≤ 1048576) (w : World) : (Instr.makeSlice 25 (.int .i64 n) (.int .i64 n)).run Tryz.prog w = .ok (.slice (some ⟨w.heap.size, 0, none⟩) n n) (w.alloc (.cells (intsV (zerosR n)).toArray 3)) := by
  obtain ⟨i0, hi, hz0, hz1, hz2⟩ := info_parts Tryz.infoInt
  have h := run_make (P := Tryz.prog) w 25 3 i0 (.int .i64 0) Tryz.underlying25 hi hz0 .i64 .i64 (n : Int) (n : Int) (by omega) (Int.le_refl _) (by rw [hz2]; omega) (by omega)
  rw [h, hz1, Nat.mul_one, Int.toNat_natCast]
  unfold zerosR
  rw [← madeI64]
theorem makeRows (n : Nat) (hn : n ≤ 1048576) (w : World) (m : List (List Int)) (hm : m.length = n) : (Instr.makeSlice 24 (.int .i64 n) (.int .i64 n)).run Tryz.prog w = .ok (.slice (some ⟨w.heap.size, 0, none⟩) n n) (w.alloc (.cells (hdrSt w.heap.size m 0).toArray 25)) := by
  obtain ⟨i0, hi, hz0, hz1, hz2⟩ := info_parts Tryz.infoRow
  have h := run_make (P := Tryz.prog) w 24 25 i0 (.slice none 0 0) Tryz.underlying24 hi hz0 .i64 .i64 (n : Int) (n : Int) (by omega) (Int.le_refl _) (by rw [hz2]; omega) (by omega)
  rw [h, hz1, Nat.mul_one, hdrSt_zero, hm, ← madeRows, Int.toNat_natCast]

/-! ### Entries set column by column -/
def stR (m : List (List Int)) (n k j r : Nat) : List Int := (List.range n).map fun c => if c < k ∨ (c = k ∧ r < j) then entry m c r else 0
def stM (m : List (List Int)) (n k j : Nat) : List (List Int) := (List.range n).map fun r => stR m n k j r
theorem stM_len (m : List (List Int)) (n k j : Nat) : (stM m n k j).length = n := by simp [stM]
theorem stR_len (m : List (List Int)) (n k j r : Nat) : (stR m n k j r).length = n := by simp [stR]
theorem stM_get (m : List (List Int)) (n k j r : Nat) (h : r < n) : (stM m n k j).getD r [] = stR m n k j r := by simp [stM, List.getD, h]
theorem stM_zero (m : List (List Int)) (n : Nat) : stM m n 0 0 = zeros n := by
  apply List.ext_getElem
  · simp [stM, zeros]
  · intro i h1 h2
    simp only [stM, zeros, zerosR, List.getElem_map, List.getElem_range, List.getElem_replicate, stR]
    apply List.ext_getElem
    · simp
    · intro c h3 h4; simp
theorem stM_next (m : List (List Int)) (n k : Nat) : stM m n k n = stM m n (k + 1) 0 := by
  apply List.ext_getElem
  · simp [stM]
  · intro i h1 h2
    have hi : i < n := by simpa [stM] using h1
    simp only [stM, List.getElem_map, List.getElem_range, stR]
    apply List.ext_getElem
    · simp
    · intro c h3 h4
      simp only [List.getElem_map, List.getElem_range]
      by_cases hc : c ≤ k
      · rw [if_pos (by omega), if_pos (by omega)]
      · rw [if_neg (by omega), if_neg (by omega)]
theorem stM_end (m : List (List Int)) (n : Nat) : stM m n n 0 = trN m n := by
  apply List.ext_getElem
  · simp [stM, trN]
  · intro i h1 h2
    simp only [stM, trN, List.getElem_map, List.getElem_range, stR, colR]
    apply List.ext_getElem
    · simp
    · intro c h3 h4
      have hc : c < n := by simpa using h3
      simp [hc]
theorem stM_step (m : List (List Int)) (n k j : Nat) (_hk : k < n) (hj : j < n) : set2 (stM m n k j) j k (entry m k j) = stM m n k (j + 1) := by
  apply List.ext_getElem
  · simp [stM, set2]
  · intro i h1 h2
    have hi : i < n := by simpa [stM] using h2
    by_cases hij : i = j
    · subst hij
      rw [set2_at, stM_get m n k i i hi]
      simp only [stM, List.getElem_map, List.getElem_range, stR]
      apply List.ext_getElem
      · simp
      · intro c h3 h4
        rw [List.getElem_set]
        simp only [List.getElem_map, List.getElem_range]
        by_cases hc : k = c
        · subst hc
          rw [if_pos rfl, if_pos (by omega)]
        · rw [if_neg hc]
          by_cases hlt : c < k
          · rw [if_pos (by omega), if_pos (by omega)]
          · rw [if_neg (by omega), if_neg (by omega)]
    · rw [set2_ne _ _ _ _ _ _ (by rw [stM_len]; exact hi) hij]
      simp only [stM, List.getElem_map, List.getElem_range, stR]
      apply List.ext_getElem
      · simp
      · intro c h3 h4
        simp only [List.getElem_map, List.getElem_range]
        by_cases hc : c < k ∨ (c = k ∧ i < j)
        · rw [if_pos hc, if_pos (by omega)]
        · rw [if_neg hc, if_neg (by omega)]

theorem trM_small (m : List (List Int)) : szSum (trM m) ≤ 1048576 := by
  by_cases hI : IsC m
  · rw [trM_yes hI]
    have h4 := hI.2.2.2
    have : ∀ n k, ((List.range k).map fun i => colR m n i).map List.length = List.replicate k n := by
      intro n k
      apply List.ext_getElem
      · simp
      · intro i h1 h2; simp [colR]
    unfold szSum
    rw [trN_len]
    unfold trN
    rw [this, List.sum_replicate_nat]
    have : m.length * m.length ≤ 4 * 4 := Nat.mul_le_mul h4 h4
    omega
  · rw [trM_no hI]; decide
end Go.Proofs.YtfjeghalkmkgoaaGreatDoor
