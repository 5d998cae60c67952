/-
  Matrices that the call itself builds, row by row or entry by entry.
  TransposeCartan of the model: what the call returns.
  A row of a square matrix that came in: its header and its cells.
-/
import Derived.Test.YtcmnkhblnlmfpaaGreatDoorFW04
import Derived.Test.YtcmnkhblnlmfpaaGreatDoorFW03
namespace Go.Proofs.YtcmnkhblnlmfpaaGreatDoor
open Go.RowKit

/-- 'append(s, u)' of one element of one cell: what the literal and the law leave, together. -/
theorem append_hdr {P : Program} {ops : Array Oper} {rest : List Oper} {o : Oper} {a : Act} {Q : Exit → Act → World → Prop} (hgd : o.guard = none) (s x : Operand) (t : TypeId)
    (ho : o.op = .call { callee := .builtin .append, args := #[s, x], argTypes := #[t, t] })
    (base : Nat) (e : TypeId) (i : TypeInfo) (z : Value) (bytes : Nat) (ht : P.underlying t = some (.slice e)) (hi : P.info? e = some i) (hz : i.zero = some z)
    (hsize : i.size = 1) (hby : i.bytes = bytes) (hzs : z.cells.size = 1)
    (v : Value) (xs : List Value) (u : Value) (hu : u.oneCell' = true) (wr : World) (hs : a.eval s = v) (hown : wr.ownsRow base e 1 v xs.length xs)
    (hx : a.eval x = .slice (some ⟨wr.heap.size, 0, none⟩) 1 1) (hlen : (xs.length + 1) * bytes ≤ 140737488355328) (hb1 : 1 ≤ bytes) (hbase : base ≤ wr.heap.size)
    (h : ∀ v' w', w'.ownsRow base e 1 v' (xs ++ [u]).length (xs ++ [u]) → wr.grownBy w' v.ownBlock → wpList P ops Q rest (a.put o.dst v') w') :
    wpList P ops Q (o :: rest) a (wr.alloc (.cells #[u] e)) := by
  have hmul : xs.length + 1 ≤ (xs.length + 1) * bytes := Nat.le_mul_of_pos_right _ hb1
  refine wpList_append_own _ hgd s x t ho base e i z 1 bytes ht hi hz hsize hby hzs (by omega) v xs.length xs hs (hown.alloc _) ⟨wr.heap.size, 0, none⟩ 1 1 [u] hx rfl ?_ ?_ ?_ ?_ ?_ ?_
  · intro j u' hj
    match j, hj with
    | 0, hj =>
      simp at hj
      subst hj
      rw [show (⟨wr.heap.size, 0, none⟩ : Addr).add 0 = ⟨wr.heap.size, 0, none⟩ from rfl, World.cell?_alloc_at _ _ _ _ rfl]
      rfl
    | j + 1, hj => simp at hj
  · intro u' hu'
    simp at hu'
    subst hu'
    exact hu
  · unfold maxLen; omega
  · exact hlen
  · simp; omega
  · intro v' w' ho' hg _
    refine h v' w' (by simpa using ho') ⟨hg.os, hg.tape, hg.output, by have := hg.size; simp at this; omega, fun k hk hn => ?_⟩
    rw [hg.block k (by simp; omega) hn]
    exact (MapKept.heap_alloc wr _).2 k hk

/-- What is kept of a row when blocks are added, or another row is written. -/
theorem RowI.grown {A B : Nat} {w w' : World} {v : Value} {l : List Int} {S : Option Nat} (h : RowI A B w v l) (hg : w.grownBy w' S) (hne : v.ownBlock = none ∨ v.ownBlock ≠ S) : RowI A B w' v l := h.kept hg hne

theorem mat_snoc {A B : Nat} {w w' : World} {v v' rv : Value} {m : List (List Int)} {l : List Int} {hs : List Value}
    (h1 : w.ownsRow A 25 1 v m.length hs) (h2 : ∀ g, v.ownBlock = some g → g < B) (h3 : ∀ j (h : j < m.length), ∃ hv, hs[j]? = some hv ∧ RowI A B w hv m[j])
    (h4 : ∀ (i j : Nat) (x y : Value), i ≠ j → hs[i]? = some x → hs[j]? = some y → x.ownBlock = none ∨ x.ownBlock ≠ y.ownBlock)
    (hr : RowI B w.heap.size w rv l) (hAB : A ≤ B) (hBw : B ≤ w.heap.size) (ho : w'.ownsRow A 25 1 v' (hs ++ [rv]).length (hs ++ [rv])) (hg : w.grownBy w' v.ownBlock) :
    MatI A w'.heap.size w' v' (m ++ [l]) := by
  have hlen : hs.length = m.length := by have := h1.1; omega
  refine ⟨hs ++ [rv], ?_, fun g hgg => (ho.lt g hgg).2, fun j hj => ?_, ?_⟩
  · have : (m ++ [l]).length = (hs ++ [rv]).length := by simp [hlen]
    rw [this]; exact ho
  · by_cases hjm : j < m.length
    · obtain ⟨hv, h5, h6⟩ := h3 j hjm
      refine ⟨hv, by rw [List.getElem?_append_left (by omega)]; exact h5, ?_⟩
      rw [List.getElem_append_left hjm]
      have hne : hv.ownBlock = none ∨ hv.ownBlock ≠ v.ownBlock := by
        rcases own_other h6.1 h1 with h | h
        · cases hhv : hv.ownBlock with
          | none => exact Or.inl rfl
          | some g => exact Or.inr (by rw [h]; simp)
        · exact Or.inr (fun e => h e.symm)
      exact (h6.kept hg hne).mono (Nat.le_refl _) (by have := hg.size; omega)
    · have hj' : j = m.length := by simp at hj; omega
      subst hj'
      refine ⟨rv, by rw [List.getElem?_append_right (by omega), hlen]; simp, ?_⟩
      rw [List.getElem_append_right (Nat.le_refl _)]
      simp only [Nat.sub_self, List.getElem_cons_zero]
      have hne : rv.ownBlock = none ∨ rv.ownBlock ≠ v.ownBlock := by
        cases hv : v.ownBlock with
        | none => 
          cases hrv : rv.ownBlock with
          | none => exact Or.inl rfl
          | some g => exact Or.inr (by simp)
        | some g =>
          right
          intro e
          have := (hr.1.lt g e).1
          have := h2 g hv
          omega
      exact (hr.kept hg hne).mono hAB (by have := hg.size; omega)
  · intro i j x y hij hx hy
    have hi : i < (hs ++ [rv]).length := (List.getElem?_eq_some_iff.1 hx).1
    have hj : j < (hs ++ [rv]).length := (List.getElem?_eq_some_iff.1 hy).1
    rw [List.length_append, List.length_singleton] at hi hj
    by_cases hi' : i < hs.length
    · rw [List.getElem?_append_left hi'] at hx
      by_cases hj' : j < hs.length
      · rw [List.getElem?_append_left hj'] at hy
        exact h4 i j x y hij hx hy
      · rw [List.getElem?_append_right (by omega), show j - hs.length = 0 by omega] at hy
        obtain rfl : rv = y := by simpa using hy
        obtain ⟨hv, h5, h6⟩ := h3 i (by omega)
        obtain rfl : x = hv := Option.some.inj (hx.symm.trans h5)
        cases hb : x.ownBlock with
        | none => exact Or.inl rfl
        | some g =>
          right
          intro e
          have := h6.2 g hb
          have := (hr.1.lt g e.symm).1
          omega
    · rw [List.getElem?_append_right (by omega), show i - hs.length = 0 by omega] at hx
      obtain rfl : rv = x := by simpa using hx
      have hj' : j < hs.length := by omega
      rw [List.getElem?_append_left hj'] at hy
      obtain ⟨hv, h5, h6⟩ := h3 j (by omega)
      obtain rfl : y = hv := Option.some.inj (hy.symm.trans h5)
      cases hb : rv.ownBlock with
      | none => exact Or.inl rfl
      | some g =>
        right
        intro e
        have := (hr.1.lt g hb).1
        have := h6.2 g e.symm
        omega

/-- 'out = append(out, row)': a row that lies behind the matrix's own blocks. -/
theorem append_row {ops : Array Oper} {rest : List Oper} {o : Oper} {a : Act} {Q : Exit → Act → World → Prop} {s x : Operand} {A B : Nat} {v rv : Value} {m : List (List Int)} {l : List Int} {wr : World}
    (hM : MatI A B wr v m) (hr : RowI B wr.heap.size wr rv l) (hAB : A ≤ B) (hBw : B ≤ wr.heap.size) (hgd : o.guard = none)
    (ho : o.op = .call { callee := .builtin .append, args := #[s, x], argTypes := #[24, 24] }) (hs : a.eval s = v)
    (hx : a.eval x = .slice (some ⟨wr.heap.size, 0, none⟩) 1 1) (hlen : m.length ≤ 1048576)
    (h : ∀ v' w', MatI A w'.heap.size w' v' (m ++ [l]) → (∀ W C, C ≤ A → Below C W wr → Below C W w') → wr.heap.size ≤ w'.heap.size → wpList Tryz.prog ops Q rest (a.put o.dst v') w') :
    wpList Tryz.prog ops Q (o :: rest) a (wr.alloc (.cells #[rv] 25)) := by
  obtain ⟨hh, h1, h2, h3, h4⟩ := hM
  have hll : hh.length = m.length := by have := h1.1; omega
  obtain ⟨i0, hi, hz0, hz1, hz2⟩ := info_parts Tryz.infoRow
  have h1' : wr.ownsRow A 25 1 v hh.length hh := by rw [hll]; exact h1
  have hone : rv.oneCell' = true := by
    obtain ⟨ra, rcap, rfl⟩ := hr.slice
    rfl
  refine append_hdr hgd _ _ 24 ho A 25 i0 (.slice none 0 0) 24 Tryz.underlying24 hi hz0 hz1 hz2 rfl v hh rv hone wr hs h1' hx (by omega) (by omega) (by omega) ?_
  intro v' w' ho' hg
  refine h v' w' (mat_snoc h1 h2 h3 h4 hr hAB hBw ho' hg) (fun W C hC hb => ?_) hg.size
  exact hb.grown hg (by omega) (fun k hk => by have := (h1.lt k hk).1; omega)

/-- 'row = append(row, x)': an int. -/
theorem append_int {ops : Array Oper} {rest : List Oper} {o : Oper} {a : Act} {Q : Exit → Act → World → Prop} {s x : Operand} {A : Nat} {v : Value} {l : List Int} {wr : World}
    (hM : RowI A wr.heap.size wr v l) (hA : A ≤ wr.heap.size) (n : Int) (hgd : o.guard = none)
    (ho : o.op = .call { callee := .builtin .append, args := #[s, x], argTypes := #[25, 25] }) (hs : a.eval s = v)
    (hx : a.eval x = .slice (some ⟨wr.heap.size, 0, none⟩) 1 1) (hlen : l.length ≤ 4194304)
    (h : ∀ v' w', RowI A w'.heap.size w' v' (l ++ [n]) → (∀ W C, C ≤ A → Below C W wr → Below C W w') → wr.heap.size ≤ w'.heap.size → wpList Tryz.prog ops Q rest (a.put o.dst v') w') :
    wpList Tryz.prog ops Q (o :: rest) a (wr.alloc (.cells #[.int .i64 n] 3)) := by
  obtain ⟨h1, h2⟩ := hM
  obtain ⟨i0, hi, hz0, hz1, hz2⟩ := info_parts Tryz.infoInt
  have h1' : wr.ownsRow A 3 1 v (intsV l).length (intsV l) := by rw [intsV_len]; exact h1
  refine append_hdr hgd _ _ 25 ho A 3 i0 (.int .i64 0) 8 Tryz.underlying25 hi hz0 hz1 hz2 rfl v (intsV l) (.int .i64 n) rfl wr hs h1' hx (by rw [intsV_len]; omega) (by omega) hA ?_
  intro v' w' ho' hg
  refine h v' w' ⟨?_, fun g hgg => (ho'.lt g hgg).2⟩ (fun W C hC hb => ?_) hg.size
  · have e : intsV l ++ [.int .i64 n] = intsV (l ++ [n]) := by simp [intsV]
    rw [e, intsV_len] at ho'
    exact ho'
  · exact hb.grown hg (by omega) (fun k hk => by have := (h1.lt k hk).1; omega)

/-- An empty literal. -/
theorem row_empty (w : World) : RowI w.heap.size (w.alloc (.cells #[] 3)).heap.size (w.alloc (.cells #[] 3)) (.slice (some ⟨w.heap.size, 0, none⟩) 0 0) [] :=
  ⟨World.ownsRow_lit w #[] 0 (Nat.le_refl _) (by unfold maxLen; omega) rfl, fun g hg => by
    have : w.heap.size = g := by simpa [Value.ownBlock] using hg
    simp; omega⟩
theorem mat_empty (w : World) : MatI w.heap.size (w.alloc (.cells #[] 25)).heap.size (w.alloc (.cells #[] 25)) (.slice (some ⟨w.heap.size, 0, none⟩) 0 0) [] :=
  ⟨[], World.ownsRow_lit w #[] 0 (Nat.le_refl _) (by unfold maxLen; omega) rfl, fun g hg => by
    have : w.heap.size = g := by simpa [Value.ownBlock] using hg
    simp; omega, fun j hj => by simp at hj, fun i j x y _ h => by simp at h⟩

/-! ### Entries of a matrix of the call's own -/
def set2 (m : List (List Int)) (j c : Nat) (x : Int) : List (List Int) := m.set j ((m.getD j []).set c x)
theorem set2_len (m : List (List Int)) (j c : Nat) (x : Int) : (set2 m j c x).length = m.length := by simp [set2]
theorem set2_at (m : List (List Int)) (j c : Nat) (x : Int) (h : j < (set2 m j c x).length) : (set2 m j c x)[j] = (m.getD j []).set c x := by simp [set2]
theorem set2_ne (m : List (List Int)) (j c i : Nat) (x : Int) (h : i < (set2 m j c x).length) (hi : i < m.length) (hne : i ≠ j) : (set2 m j c x)[i] = m[i] := by
  simp only [set2]; rw [List.getElem_set_ne (fun e => hne e.symm)]

/-- One entry of a matrix of the call's own: where it lies, and what a store into it leaves. -/
theorem MatI.put {A B : Nat} {w : World} {a : Option Addr} {n cap : Nat} {m : List (List Int)} (h : MatI A B w (.slice a n cap) m) {j c : Nat} (hj : j < m.length) (hc : c < (m.getD j []).length) :
    ∃ g r rcap, a = some ⟨g, 0, none⟩ ∧ w.cell? ⟨g, j, none⟩ = some (.slice (some ⟨r, 0, none⟩) (m.getD j []).length rcap) ∧ w.cell? ⟨r, c, none⟩ = some (.int .i64 ((m.getD j []).getD c 0)) ∧ w.frozen? ⟨r, c, none⟩ = false ∧ A ≤ r ∧ r < B ∧
      ∀ x, MatI A B (w.setCell ⟨r, c, none⟩ (.int .i64 x)) (.slice a n cap) (set2 m j c x) := by
  obtain ⟨hs, h1, h2, h3, h4⟩ := h
  have hgd : m.getD j [] = m[j] := (by simp [List.getD, hj])
  rw [hgd] at hc ⊢
  obtain ⟨hv, h5, h6⟩ := h3 j hj
  rcases h1.2 with ⟨hnil, h0⟩ | ⟨g, cap', cur, hval, hA, hg, _⟩
  · omega
  have ha : a = some ⟨g, 0, none⟩ := by injection hval
  have hn : n = m.length := by injection hval
  subst ha
  subst hn
  rcases h6.1.2 with ⟨_, h0⟩ | ⟨r, rcap, rcur, rfl, hrA, hrg, _⟩
  · omega
  refine ⟨g, r, rcap, rfl, ?_, ?_, ?_, hrA, h6.2 r rfl, fun x => ?_⟩
  · rw [h1.cellAt j (by omega)]; exact h5
  · rw [h6.1.cellAt c (by omega)]
    simp [intsV, List.getD, hc]
  · exact h6.1.frozenAt c
  · obtain ⟨ho, hgr⟩ := h6.1.stored c (.int .i64 x)
    rw [intsV_set] at ho
    have hrow : RowI A B (w.setCell ⟨r, c, none⟩ (.int .i64 x)) (.slice (some ⟨r, 0, none⟩) m[j].length rcap) (m[j].set c x) := ⟨by rw [List.length_set]; exact ho, h6.2⟩
    have hl := set2_len m j c x
    have h7 := mat_row (m' := set2 m j c x) h1 h3 h4 h5 hgr hl (by rw [hgd]; exact h6.1) (fun hj' => by
      rw [set2_at, hgd]; exact hrow) (fun i hi hne => ⟨by omega, set2_ne _ _ _ _ _ _ hi hne⟩)
    exact ⟨hs, h7.1, h2, h7.2, h4⟩

/-- A matrix under way: all of it lies below the heap's end. -/
theorem MatI.step {A : Nat} {w w' : World} {v : Value} {m : List (List Int)} (h : MatI A w.heap.size w v m) (hb : Below w.heap.size w w') : MatI A w'.heap.size w' v m :=
  (h.same (SameIn.of_below hb (Nat.le_refl _))).mono (Nat.le_refl _) hb.size
theorem RowI.step {A : Nat} {w w' : World} {v : Value} {l : List Int} (h : RowI A w.heap.size w v l) (hb : Below w.heap.size w w') : RowI A w'.heap.size w' v l :=
  (h.same (SameIn.of_below hb (Nat.le_refl _))).mono (Nat.le_refl _) hb.size
/-- The value is a slice, of whatever length's spelling. -/
theorem RowI.slice3 {A B : Nat} {w : World} {v : Value} {l : List Int} (h : RowI A B w v l) : ∃ a n cap, v = .slice a n cap := by
  obtain ⟨a, cap, h⟩ := h.slice; exact ⟨a, _, cap, h⟩
end Go.Proofs.YtcmnkhblnlmfpaaGreatDoor
namespace Go.Proofs.YtcmnkhblnlmfpaaGreatDoor
open Go.RowKit

def colR (m : List (List Int)) (n k : Nat) : List Int := (List.range n).map fun j => entry m j k
def trN (m : List (List Int)) (n : Nat) : List (List Int) := (List.range n).map fun i => colR m n i
noncomputable def trM (m : List (List Int)) : List (List Int) := if isB m = true then trN m m.length else []
theorem trM_yes {m : List (List Int)} (h : IsC m) : trM m = trN m m.length := if_pos (isB_yes h)
theorem trM_no {m : List (List Int)} (h : ¬ IsC m) : trM m = [] := by unfold trM; rw [isB_no h]; rfl
theorem colR_len (m : List (List Int)) (n k : Nat) : (colR m n k).length = n := by simp [colR]
theorem trN_len (m : List (List Int)) (n : Nat) : (trN m n).length = n := by simp [trN]
theorem colR_step (m : List (List Int)) (n k c : Nat) (h : c < n) : (colR m n k).take c ++ [entry m c k] = (colR m n k).take (c + 1) := by
  rw [List.take_succ_eq_append_getElem (by rw [colR_len]; exact h)]; simp [colR]
theorem trN_step (m : List (List Int)) (n k : Nat) (h : k < n) : (trN m n).take k ++ [colR m n k] = (trN m n).take (k + 1) := by
  rw [List.take_succ_eq_append_getElem (by rw [trN_len]; exact h)]; simp [trN]
theorem colR_end (m : List (List Int)) (n k : Nat) : (colR m n k).take n = colR m n k := List.take_of_length_le (by rw [colR_len]; exact Nat.le_refl _)
theorem trN_end (m : List (List Int)) (n : Nat) : (trN m n).take n = trN m n := List.take_of_length_le (by rw [trN_len]; exact Nat.le_refl _)
theorem isc_w (B : Nat) (v : Value) (m : List (List Int)) (c : Bool) (hc : isB m = c) (w : World) (h : MatB B w v m) (hf : RowsFit m) :
    Calls Tryz.prog 12 #[v] w fun e w' => e = .returned (.bool c) ∧ Below w.heap.size w w' :=
  (isc_0 B v m c hc w h hf).mono fun e w' ⟨h1, q, h2⟩ => ⟨h1, by rw [h2]; exact below_drewN q⟩
theorem icm_w (B : Nat) (v : Value) (m : List (List Int)) (c : Bool) (hc : isB m = c) (w : World) (h : MatB B w v m) (hf : RowsFit m) :
    Calls Tryz.prog 37 #[v] w fun e w' => e = .returned (.bool c) ∧ Below w.heap.size w w' :=
  (icm_any B v m w h hf).mono fun e w' ⟨h1, q, h2⟩ => ⟨by rw [h1]; exact ret_boolean hc, by rw [h2]; exact below_drewN q⟩
theorem makesM_nil {w w' : World} {x : Value} {m : List (List Int)} (hm : m = []) (h : MatI w.heap.size w'.heap.size w' x []) (hb : Below w.heap.size w w') : MakesM w m (.returned x) w' :=
  ⟨x, rfl, by rw [hm]; exact ⟨h, Nat.le_refl _⟩, hb⟩

set_option maxHeartbeats 2000000 in
set_option maxRecDepth 100000 in
theorem trs_any (B : Nat) (v : Value) (m : List (List Int)) (w : World) (h : MatB B w v m) (hB : B ≤ w.heap.size) (hf : RowsFit m) :
    Calls Tryz.prog 39 #[v] w (MakesM w (trM m)) := by
  obtain ⟨a, cap, rfl⟩ := h.slice
  have hl := hf.1
  have HR := Lib.hid h; clear h
  have HF := Lib.hid hf; clear hf
  by_cases hI : IsC m
  · have hrows : Rows0 m m.length m.length := hI.1
    have hn4 := hI.2.2
    have HV := Lib.hid (trM_yes hI)
    have HC := Lib.hid (isB_yes hI)
    have HRW := Lib.hid hrows
    clear hI hrows
    generalize hn : m.length = n at *
    unfold maxLen at hl
    have HN := Lib.hid hn; clear hn
    go_enter Tryz.func39, Tryz.ntmps39
    go_wp2_with fail
    go_loopw [3, 4] (fun o i wr => ∃ (k : Nat) (wq : World), wq = wr ∧ k ≤ n ∧ i = .int .i64 k ∧ MatI w.heap.size wq.heap.size wq o ((trN m n).take k) ∧ Below w.heap.size w wq) (fun _ i _ => n - (intOf i).toNat)
    case atStart => exact ⟨0, _, rfl, Nat.zero_le _, rfl, mat_empty w, (Below.refl _ _).alloc (Nat.le_refl _) _⟩
    case round =>
      obtain ⟨k, wq, rfl, hk, rfl, hM, hb⟩ := hrel
      have HM := Lib.hid hM; clear hM
      have HB := Lib.hid hb; clear hb
      by_cases hlt : k < n
      · have hlt' : decide (k < n) = true := decide_eq_true hlt
        go_wp2_with fail
        refine (isc_w B _ m true HC.out _ (HR.out.below HB.out hB) HF.out).mono ?_
        rintro e w2 ⟨rfl, hb2⟩
        have HM2 := Lib.hid (HM.out.step hb2)
        have HB2 := Lib.hid (HB.out.trans (hb2.mono HB.out.size))
        clear hb2 HM HB
        go_wp2_with fail
        go_loopw [5, 6] (fun r j wr => ∃ (c : Nat) (wi : World), wi = wr ∧ c ≤ n ∧ j = .int .i64 c ∧ RowI w2.heap.size wi.heap.size wi r ((colR m n k).take c) ∧ Below w2.heap.size w2 wi) (fun _ j _ => n - (intOf j).toNat)
        case atStart => exact ⟨0, _, rfl, Nat.zero_le _, rfl, row_empty w2, (Below.refl _ _).alloc (Nat.le_refl _) _⟩
        case round =>
          obtain ⟨c, wi, rfl, hc, rfl, hR, hbi⟩ := hrel
          have HBI := Lib.hid hbi
          have hsz := hbi.size
          have hB2 := HB2.out.size
          clear hbi
          by_cases hcn : c < n
          · have hBi : Below w.heap.size w wi := HB2.out.trans (HBI.out.mono hB2)
            obtain ⟨b, off, rb, roff, rcap, rfl, hc1, hx⟩ := (HR.out.below hBi hB).entry HRW.out hcn hlt
            clear hBi
            have HST := Lib.hid (colR_step m n k c hcn)
            have hrl : ((colR m n k).take c).length ≤ 4194304 := by rw [List.length_take]; omega
            generalize entry m c k = x at *
            have HRI := Lib.hid hR; clear hR
            have HRL := Lib.hid hrl; clear hrl
            go_wp2_with (at_builtin; go_must (refine append_int HRI.out hsz x rfl rfl rfl rfl HRL.out ?_; intro v' w3 hr3 hb3 hz3))
            rw [HST.out] at hr3
            have HR3 := Lib.hid hr3
            have HB3 := Lib.hid (hb3 w2 w2.heap.size (Nat.le_refl _) HBI.out)
            exact ⟨⟨c + 1, _, rfl, by omega, by go_num, HR3.out, HB3.out⟩, by simp [intOf]; omega⟩
          · obtain rfl : c = n := by omega
            have hM3 : MatI w.heap.size w2.heap.size wi _ _ := HM2.out.same (SameIn.of_below HBI.out (Nat.le_refl _))
            rw [colR_end] at hR
            obtain ⟨ra, rcap, rfl⟩ := hR.slice
            have HM3 := Lib.hid hM3
            have HR3 := Lib.hid hR
            have HST := Lib.hid (trN_step m c k hlt)
            have hml : ((trN m c).take k).length ≤ 1048576 := by rw [List.length_take]; omega
            have HML := Lib.hid hml
            clear hM3 hR hml
            go_wp2_with (at_builtin; go_must (refine append_row HM3.out HR3.out hB2 hsz rfl rfl rfl rfl HML.out ?_; intro v' w3 hm3 hb3 hz3))
            rw [HST.out] at hm3
            have HM4 := Lib.hid hm3
            have HB4 := Lib.hid (hb3 w w.heap.size (Nat.le_refl _) (HB2.out.trans (HBI.out.mono hB2)))
            exact ⟨⟨k + 1, _, rfl, by omega, by go_num, HM4.out, HB4.out⟩, by simp [intOf]; omega⟩
      · obtain rfl : k = n := by omega
        have hlt' : decide (k < k) = false := by simp
        go_wp2_with fail
        go_ret
        have hM := HM.out
        rw [trN_end] at hM
        exact ⟨_, rfl, by rw [HV.out]; exact ⟨hM, Nat.le_refl _⟩, HB.out⟩
  · have HV := Lib.hid (trM_no hI)
    have HC := Lib.hid (isB_no hI)
    clear hI
    generalize hn : m.length = n at *
    unfold maxLen at hl
    have HN := Lib.hid hn; clear hn
    by_cases h0 : 0 < n
    · go_enter Tryz.func39, Tryz.ntmps39
      go_wp2_with fail
      go_loopw [3, 4] (fun o i wr => i = .int .i64 0 ∧ o = .slice (some ⟨w.heap.size, 0, none⟩) 0 0 ∧ wr = w.alloc (.cells #[] 25)) (fun _ _ _ => 0)
      case atStart => exact ⟨rfl, rfl, rfl⟩
      case round =>
        obtain ⟨rfl, rfl, rfl⟩ := hrel
        have hb : Below w.heap.size w (w.alloc (.cells #[] 25)) := (Below.refl _ _).alloc (Nat.le_refl _) _
        have HB := Lib.hid hb; clear hb
        go_wp2_with fail
        refine (isc_w B _ m false HC.out _ (HR.out.below HB.out hB) HF.out).mono ?_
        rintro e w2 ⟨rfl, hb2⟩
        have HB2 := Lib.hid hb2; clear hb2
        go_wp2_with fail
        go_ret
        exact makesM_nil HV.out ((mat_empty w).step HB2.out) (HB.out.trans (HB2.out.mono HB.out.size))
    · go_enter Tryz.func39, Tryz.ntmps39
      go_wp2_with fail
      go_loopw [3, 4] (fun o i wr => i = .int .i64 0 ∧ o = .slice (some ⟨w.heap.size, 0, none⟩) 0 0 ∧ wr = w.alloc (.cells #[] 25)) (fun _ _ _ => 0)
      case atStart => exact ⟨rfl, rfl, rfl⟩
      case round =>
        obtain ⟨rfl, rfl, rfl⟩ := hrel
        have hd : decide (0 < n) = false := decide_eq_false h0
        go_wp2_with fail
        go_ret
        exact makesM_nil HV.out (mat_empty w) ((Below.refl _ _).alloc (Nat.le_refl _) _)
end Go.Proofs.YtcmnkhblnlmfpaaGreatDoor
namespace Go.Proofs.YtcmnkhblnlmfpaaGreatDoor
open Go.RowKit

/-- A row of a square matrix: its header and its cells. -/
theorem MatB.line {B : Nat} {w : World} {a : Option Addr} {n cap : Nat} {m : List (List Int)} (h : MatB B w (.slice a n cap) m) (hr : Rows0 m n n) {i : Nat} (hi : i < n) :
    ∃ b off rb roff rcap, a = some ⟨b, off, none⟩ ∧ b < B ∧ rb < B ∧ w.cell? ⟨b, off + i, none⟩ = some (.slice (some ⟨rb, roff, none⟩) n rcap) ∧ ∀ j, j < n → w.cell? ⟨rb, roff + j, none⟩ = some (.int .i64 (Go.Proofs.YtcmnkhblnlmfpaaGreatDoor.entry m i j)) := by
  obtain ⟨b, off, hil, rfl, hb, ra, rcap, hc, hrow⟩ := h.get hi
  have hg := getD_row m i hil
  have hlen : m[i].length = n := by rw [← hg]; exact hr i hi
  rw [hlen] at hc hrow
  obtain ⟨rb, roff, hjl, rfl, hrb, _⟩ := hrow.get (j := 0) (by omega)
  refine ⟨b, off, rb, roff, rcap, rfl, hb, hrb, hc, fun j hj => ?_⟩
  obtain ⟨rb', roff', hjl', he, _, hcell⟩ := hrow.get hj
  injection he with he
  injection he with he1 he2
  subst he1
  subst he2
  rw [hcell]
  unfold Go.Proofs.YtcmnkhblnlmfpaaGreatDoor.entry
  rw [hg]
  simp [List.getD, hjl']

end Go.Proofs.YtcmnkhblnlmfpaaGreatDoor
