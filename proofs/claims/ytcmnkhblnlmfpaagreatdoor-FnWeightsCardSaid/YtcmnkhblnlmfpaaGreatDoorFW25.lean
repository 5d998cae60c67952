/-
  The table of all orders of up to four points, as the model makes it (l3Orders).
  Determinants do not change when the points are taken in another order (no walk here).
  The model's sets by masks, principal minors and witness: what the calls return.
  IsConnected and HasCycle of the model and of the program: what each call returns.
  WitnessOf, IsFinite and IsAffine of the model: what the calls return.
  IsAffine of the model: what the call returns.
-/
import Derived.Test.YtcmnkhblnlmfpaaGreatDoorFW24
namespace Go.Proofs.YtcmnkhblnlmfpaaGreatDoor
open Go.RowKit

/-! ### The table -/
def extK (q : List Nat) (x : Nat) : List (List Nat) := ((List.range x).filter fun y => !q.contains y).map fun y => q ++ [y]
def nextF (n : Nat) (o : List (List Nat)) : List (List Nat) := o.flatMap fun q => extK q n
def ordsI (n : Nat) : Nat → List (List Nat)
  | 0 => [[]]
  | i + 1 => nextF n (ordsI n i)
def ords (n : Nat) : List (List Nat) := ordsI n n
theorem extK_yes {q : List Nat} {x : Nat} (h : q.contains x = false) : extK q x ++ [q ++ [x]] = extK q (x + 1) := by
  unfold extK
  rw [List.range_succ, List.filter_append, List.map_append, List.filter_cons_of_pos (by rw [h]; rfl)]
  rfl
theorem extK_no {q : List Nat} {x : Nat} (h : q.contains x = true) : extK q x = extK q (x + 1) := by
  unfold extK
  rw [List.range_succ, List.filter_append, List.map_append, List.filter_cons_of_neg (by rw [h]; simp)]
  simp
theorem extK_len (q : List Nat) (x : Nat) : (extK q x).length ≤ x := by
  unfold extK
  rw [List.length_map]
  exact Nat.le_trans (List.length_filter_le _ _) (by rw [List.length_range]; exact Nat.le_refl _)
theorem nextF_len (n : Nat) (o : List (List Nat)) : (nextF n o).length ≤ n * o.length := by
  induction o with
  | nil => simp [nextF]
  | cons q o ih =>
    have h1 := extK_len q n
    have h2 : nextF n (q :: o) = extK q n ++ nextF n o := rfl
    rw [h2, List.length_append, List.length_cons, Nat.mul_succ]
    omega
theorem nextF_step (n : Nat) (o : List (List Nat)) (k : Nat) (h : k < o.length) : nextF n (o.take (k + 1)) = nextF n (o.take k) ++ extK (o.getD k []) n := by
  rw [List.take_succ_eq_append_getElem h]
  unfold nextF
  rw [List.flatMap_append]
  simp [List.getD, h]
/-- What is wanted of the tables. -/
def OrdsOk (n : Nat) : Prop := ∀ i, i < n + 1 → (ordsI n i).length ≤ 24 ∧ ∀ q ∈ ordsI n i, q.length = i
instance (n : Nat) : Decidable (OrdsOk n) := by unfold OrdsOk; infer_instance
theorem ords_ok0 : OrdsOk 0 := by decide +kernel
theorem ords_ok1 : OrdsOk 1 := by decide +kernel
theorem ords_ok2 : OrdsOk 2 := by decide +kernel
theorem ords_ok3 : OrdsOk 3 := by decide +kernel
theorem ords_ok4 : OrdsOk 4 := by decide +kernel
theorem ords_ok (n : Nat) (h : n ≤ 4) : OrdsOk n := by
  rcases (show n = 0 ∨ n = 1 ∨ n = 2 ∨ n = 3 ∨ n = 4 by omega) with rfl | rfl | rfl | rfl | rfl
  · exact ords_ok0
  · exact ords_ok1
  · exact ords_ok2
  · exact ords_ok3
  · exact ords_ok4
def tabL (o : List (List Nat)) : List (List Int) := o.map intL
theorem tabL_len (o : List (List Nat)) : (tabL o).length = o.length := by simp [tabL]
theorem tabL_get (o : List (List Nat)) (k : Nat) (h : k < o.length) : (tabL o).getD k [] = intL (o.getD k []) := by simp [tabL, List.getD, h]
theorem tabL_snoc (o : List (List Nat)) (q : List Nat) : tabL o ++ [intL q] = tabL (o ++ [q]) := by simp [tabL]
theorem hasB_intL (q : List Nat) (x : Nat) : hasB (intL q) (x : Int) = q.contains x := by
  unfold hasB intL
  by_cases h : x ∈ q
  · rw [decide_eq_true (List.mem_map.2 ⟨x, h, rfl⟩)]
    exact (List.contains_iff_mem.2 h).symm
  · rw [decide_eq_false (fun h' => by
      obtain ⟨y, hy, e⟩ := List.mem_map.1 h'
      have : y = x := by omega
      exact h (this ▸ hy))]
    cases hc : q.contains x with
    | false => rfl
    | true => exact absurd (List.contains_iff_mem.1 hc) h

/-! ### Rows whose header holds an address -/
def Hd0 (w : World) (v : Value) (m : List (List Int)) : Prop := m = [[]] → ∃ g q c, v = .slice (some ⟨g, 0, none⟩) 1 1 ∧ w.cell? ⟨g, 0, none⟩ = some (.slice (some ⟨q, 0, none⟩) 0 c)
theorem row_some {A B : Nat} {w : World} {a : Option Addr} {n cap : Nat} {m : List (List Int)} (h : MatI A B w (.slice a n cap) m) (h0 : Hd0 w (.slice a n cap) m) (hall : m = [[]] ∨ ∀ j, j < m.length → m.getD j [] ≠ []) {j : Nat} (hj : j < n) (hl : j < m.length) :
    ∃ b off rb roff rcap, a = some ⟨b, off, none⟩ ∧ b < B ∧ w.cell? ⟨b, off + j, none⟩ = some (.slice (some ⟨rb, roff, none⟩) (m.getD j []).length rcap) ∧ RowB B w (.slice (some ⟨rb, roff, none⟩) (m.getD j []).length rcap) (m.getD j []) := by
  obtain ⟨b, off, ra, rcap, rfl, hb, hc, hr⟩ := h.matB.rowAt hj hl
  rcases hall with rfl | hall
  · obtain ⟨g, q, c, hv, hcell⟩ := h0 rfl
    obtain rfl : j = 0 := by simp at hl; exact hl
    have hv1 : b = g ∧ off = 0 := by simp at hv; exact hv.1
    obtain ⟨rfl, rfl⟩ := hv1
    rw [hcell] at hc
    have hc1 := Option.some.inj hc
    have hra : ra = some ⟨q, 0, none⟩ := by simp at hc1; exact hc1.1.symm
    subst hra
    exact ⟨b, 0, q, 0, rcap, rfl, hb, by rw [hcell, hc1], hr⟩
  · rcases hr with ⟨h1, _⟩ | ⟨rb, roff, rcap', hv, hrb, hcs⟩
    · exact absurd h1 (hall j hl)
    · have hra : ra = some ⟨rb, roff, none⟩ := by simp at hv; exact hv.1
      subst hra
      exact ⟨b, off, rb, roff, rcap, rfl, hb, hc, Or.inr ⟨rb, roff, rcap, rfl, hrb, hcs⟩⟩

set_option maxRecDepth 100000 in
/-- 'append(row, xs...)', xs at an address, empty or not. -/
theorem append_intsS {ops : Array Oper} {rest : List Oper} {o : Oper} {a : Act} {Q : Exit → Act → World → Prop} {s x : Operand} {A B rb roff rcap : Nat} {v : Value} {l l2 : List Int} {wr : World}
    (hM : RowI A wr.heap.size wr v l) (hA : A ≤ wr.heap.size) (hr : RowB B wr (.slice (some ⟨rb, roff, none⟩) l2.length rcap) l2) (hlen : l.length + l2.length ≤ 4194304) (hgd : o.guard = none)
    (ho : o.op = .call { callee := .builtin .append, args := #[s, x], argTypes := #[25, 25] }) (hs : a.eval s = v) (hx : a.eval x = .slice (some ⟨rb, roff, none⟩) l2.length rcap)
    (h : AfterRow A wr (l ++ l2) fun v' w' => wpList Tryz.prog ops Q rest (a.put o.dst v') w') : wpList Tryz.prog ops Q (o :: rest) a wr := by
  obtain ⟨h1, h2⟩ := hM
  obtain ⟨i0, hi, hz0, hz1, hz2⟩ := info_parts Tryz.infoInt
  have hl2 : (intsV l2).length = l2.length * 1 := by rw [intsV_len]; omega
  refine wpList_append_own wr hgd s x 25 ho A 3 i0 (.int .i64 0) 1 8 Tryz.underlying25 hi hz0 hz1 hz2 rfl (by omega) v l.length (intsV l) hs h1 ⟨rb, roff, none⟩ l2.length rcap (intsV l2) hx hl2 (fun j u hu => ?_) (fun u hu => ?_) (by unfold maxLen; omega) (by omega) hA ?_
  · have hj : j < l2.length := by have := (List.getElem?_eq_some_iff.1 hu).1; rwa [intsV_len] at this
    obtain ⟨b', off', hjl, ha, _, hc⟩ := hr.get hj
    injection ha with ha
    injection ha with ha1 ha2
    subst ha1
    subst ha2
    rw [Addr.add_lit, hc, ← hu]
    simp [intsV, hj]
  · obtain ⟨n, _, rfl⟩ := List.mem_map.1 hu
    rfl
  · intro v' w' ho' hg _
    refine h v' w' ⟨?_, fun g hgg => (ho'.lt g hgg).2⟩ (fun W C hC hb => ?_) hg.size
    · have e : intsV l ++ intsV l2 = intsV (l ++ l2) := by simp [intsV]
      rw [e] at ho'
      rw [List.length_append]
      exact ho'
    · exact hb.grown hg (by omega) (fun k hk => by have := (h1.lt k hk).1; omega)

/-- The first table: one order of no points. -/
theorem tab_zero (w : World) : MatI w.heap.size ((w.alloc (.cells #[] 3)).alloc (.cells #[.slice (some ⟨w.heap.size, 0, none⟩) 0 0] 25)).heap.size ((w.alloc (.cells #[] 3)).alloc (.cells #[.slice (some ⟨w.heap.size, 0, none⟩) 0 0] 25)) (.slice (some ⟨w.heap.size + 1, 0, none⟩) 1 1) [[]] ∧
    Hd0 ((w.alloc (.cells #[] 3)).alloc (.cells #[.slice (some ⟨w.heap.size, 0, none⟩) 0 0] 25)) (.slice (some ⟨w.heap.size + 1, 0, none⟩) 1 1) [[]] := by
  have hsz : (w.alloc (.cells #[] 3)).heap.size = w.heap.size + 1 := by simp
  have hrow := (row_empty w).alloc (.cells #[.slice (some ⟨w.heap.size, 0, none⟩) 0 0] 25)
  have hlit := World.ownsRow_lit (base := w.heap.size) (e := 25) (size := 1) (w.alloc (.cells #[] 3)) #[.slice (some ⟨w.heap.size, 0, none⟩) 0 0] 1 (by omega) (by unfold maxLen; omega) rfl
  rw [hsz] at hlit
  refine ⟨⟨[.slice (some ⟨w.heap.size, 0, none⟩) 0 0], hlit, ?_, ?_, ?_⟩, fun _ => ⟨w.heap.size + 1, w.heap.size, 0, rfl, ?_⟩⟩
  · intro g hg
    have : w.heap.size + 1 = g := by simpa [Value.ownBlock] using hg
    simp; omega
  · intro j hj
    obtain rfl : j = 0 := by simp at hj; exact hj
    exact ⟨_, rfl, hrow.mono (Nat.le_refl _) (by simp)⟩
  · intro i j x y hij hx hy
    have h1 := (List.getElem?_eq_some_iff.1 hx).1
    have h2 := (List.getElem?_eq_some_iff.1 hy).1
    simp at h1 h2
    omega
  · have h3 := (MapKept.heap_alloc (w.alloc (.cells #[] 3)) (.cells #[.slice (some ⟨w.heap.size, 0, none⟩) 0 0] 25)).1
    rw [hsz] at h3
    rw [cell_of_row _ (w.heap.size + 1) 0 _ _ _ h3]
    rfl

end Go.Proofs.YtcmnkhblnlmfpaaGreatDoor
namespace Go.Proofs.YtcmnkhblnlmfpaaGreatDoor
open Go.RowKit

/-! ### Determinants of up to four points as polynomials -/
def P2 (a b c d : Int) : Int := a * d - b * c
def P3 (a b c d e f g h i : Int) : Int := a * (e * i - f * h) - b * (d * i - f * g) + c * (d * h - e * g)
def P4 (f : Nat → Nat → Int) : Int :=
  f 0 0 * P3 (f 1 1) (f 1 2) (f 1 3) (f 2 1) (f 2 2) (f 2 3) (f 3 1) (f 3 2) (f 3 3) - f 0 1 * P3 (f 1 0) (f 1 2) (f 1 3) (f 2 0) (f 2 2) (f 2 3) (f 3 0) (f 3 2) (f 3 3)
    + f 0 2 * P3 (f 1 0) (f 1 1) (f 1 3) (f 2 0) (f 2 1) (f 2 3) (f 3 0) (f 3 1) (f 3 3) - f 0 3 * P3 (f 1 0) (f 1 1) (f 1 2) (f 2 0) (f 2 1) (f 2 2) (f 3 0) (f 3 1) (f 3 2)
def PF (n : Nat) (f : Nat → Nat → Int) : Int := match n with
  | 0 => 1
  | 1 => f 0 0
  | 2 => P2 (f 0 0) (f 0 1) (f 1 0) (f 1 1)
  | 3 => P3 (f 0 0) (f 0 1) (f 0 2) (f 1 0) (f 1 1) (f 1 2) (f 2 0) (f 2 1) (f 2 2)
  | _ => P4 f
theorem det_full1 (f : Nat → Nat → Int) : detF 1 (fullF f 1) = PF 1 f := by
  simp [detF, sgn, wdM, wdR, keepC, entry, List.range_succ, List.getD, fullF, rowF, PF]
theorem det_full2 (f : Nat → Nat → Int) : detF 2 (fullF f 2) = PF 2 f := by
  simp [detF, sgn, wdM, wdR, keepC, entry, List.range_succ, List.getD, fullF, rowF, PF, P2]
  grind
theorem det_full3 (f : Nat → Nat → Int) : detF 3 (fullF f 3) = PF 3 f := by
  simp [detF, sgn, wdM, wdR, keepC, entry, List.range_succ, List.getD, fullF, rowF, PF, P3]
  grind
set_option maxHeartbeats 1000000 in
theorem det_full4 (f : Nat → Nat → Int) : detF 4 (fullF f 4) = PF 4 f := by
  simp [detF, sgn, wdM, wdR, keepC, entry, List.range_succ, List.getD, fullF, rowF, PF, P4, P3]
  grind
theorem det_full (n : Nat) (h : n ≤ 4) (f : Nat → Nat → Int) : detF n (fullF f n) = PF n f := by
  rcases (show n = 0 ∨ n = 1 ∨ n = 2 ∨ n = 3 ∨ n = 4 by omega) with rfl | rfl | rfl | rfl | rfl
  · rfl
  · exact det_full1 f
  · exact det_full2 f
  · exact det_full3 f
  · exact det_full4 f
/-! ### Another order -/
def perF (f : Nat → Nat → Int) (q : List Nat) (i j : Nat) : Int := f (q.getD i 0) (q.getD j 0)
theorem ords1 : ords 1 = [[0]] := by decide +kernel
theorem ords2 : ords 2 = [[0, 1], [1, 0]] := by decide +kernel
theorem ords3 : ords 3 = [[0, 1, 2], [0, 2, 1], [1, 0, 2], [1, 2, 0], [2, 0, 1], [2, 1, 0]] := by decide +kernel
theorem ords4 : ords 4 = [[0, 1, 2, 3], [0, 1, 3, 2], [0, 2, 1, 3], [0, 2, 3, 1], [0, 3, 1, 2], [0, 3, 2, 1], [1, 0, 2, 3], [1, 0, 3, 2], [1, 2, 0, 3], [1, 2, 3, 0], [1, 3, 0, 2], [1, 3, 2, 0],
  [2, 0, 1, 3], [2, 0, 3, 1], [2, 1, 0, 3], [2, 1, 3, 0], [2, 3, 0, 1], [2, 3, 1, 0], [3, 0, 1, 2], [3, 0, 2, 1], [3, 1, 0, 2], [3, 1, 2, 0], [3, 2, 0, 1], [3, 2, 1, 0]] := by decide +kernel
theorem per2 (f : Nat → Nat → Int) : ∀ q ∈ ords 2, PF 2 (perF f q) = PF 2 f := by
  rw [ords2]
  simp only [List.forall_mem_cons, List.forall_mem_nil, and_true]
  refine ⟨?_, ?_⟩ <;> simp [PF, P2, perF, List.getD] <;> grind
theorem per3 (f : Nat → Nat → Int) : ∀ q ∈ ords 3, PF 3 (perF f q) = PF 3 f := by
  rw [ords3]
  simp only [List.forall_mem_cons, List.forall_mem_nil, and_true]
  refine ⟨?_, ?_, ?_, ?_, ?_, ?_⟩ <;> simp [PF, P3, perF, List.getD] <;> grind
set_option maxHeartbeats 4000000 in
theorem per4 (f : Nat → Nat → Int) : ∀ q ∈ ords 4, PF 4 (perF f q) = PF 4 f := by
  rw [ords4]
  simp only [List.forall_mem_cons, List.forall_mem_nil, and_true]
  refine ⟨?_, ?_, ?_, ?_, ?_, ?_, ?_, ?_, ?_, ?_, ?_, ?_, ?_, ?_, ?_, ?_, ?_, ?_, ?_, ?_, ?_, ?_, ?_, ?_⟩ <;> simp [PF, P4, P3, perF, List.getD] <;> grind
theorem per_all (n : Nat) (h : n ≤ 4) (f : Nat → Nat → Int) (q : List Nat) (hq : q ∈ ords n) : PF n (perF f q) = PF n f := by
  rcases (show n = 0 ∨ n = 1 ∨ n = 2 ∨ n = 3 ∨ n = 4 by omega) with rfl | rfl | rfl | rfl | rfl
  · rfl
  · rw [ords1] at hq
    obtain rfl := List.mem_singleton.1 hq
    rfl
  · exact per2 f q hq
  · exact per3 f q hq
  · exact per4 f q hq
end Go.Proofs.YtcmnkhblnlmfpaaGreatDoor
namespace Go.Proofs.YtcmnkhblnlmfpaaGreatDoor
open Go.RowKit

theorem MatI.rowI4 {A B : Nat} {w : World} {a : Option Addr} {n cap : Nat} {m : List (List Int)} (h : MatI A B w (.slice a n cap) m) {j : Nat} (hj : j < m.length) :
    ∃ b hv, a = some ⟨b, 0, none⟩ ∧ w.cell? ⟨b, j, none⟩ = some hv ∧ RowI A B w hv (m.getD j []) := by
  obtain ⟨hs, h1, h2, h3, _⟩ := h
  obtain ⟨hv, h4, h5⟩ := h3 j hj
  rcases h1.2 with ⟨_, he⟩ | ⟨g, cap', cur, hval, _⟩
  · omega
  · have ha : a = some ⟨g, 0, none⟩ := by injection hval
    have hn : n = m.length := by injection hval
    subst ha
    subst hn
    exact ⟨g, hv, rfl, by rw [h1.cellAt j (by omega)]; exact h4, by rw [getD_row m j hj]; exact h5⟩

theorem sameIn_grown4 {A B : Nat} {w w' : World} {S : Option Nat} (hg : w.grownBy w' S) (hB : B ≤ w.heap.size) (hS : ∀ g, S = some g → g < A ∨ B ≤ g) : SameIn A B w w' := fun k h1 h2 =>
  hg.block k (by omega) (fun e => by have := hS k e.symm; omega)
theorem bit_test : ∀ t : Nat, t < 16 → ∀ c : Nat, c < 4 → ((bits BinOp.and IntKind.i64 ((t : Int) / 2 ^ c) 1) == 1) = t.testBit c := by decide +kernel
theorem sets_pred (n t : Nat) (h : 1 ≤ t) : (setsL n (t - 1)).map intL ++ [intL (setK t n)] = (setsL n t).map intL := by
  obtain ⟨k, rfl⟩ : ∃ k, t = k + 1 := ⟨t - 1, by omega⟩
  rw [← setsL_step n k, List.map_append]; rfl
def tabS (n : Nat) : List (List Int) := (setsL n (2 ^ n - 1)).map intL
/-! ### append(row, x) where the row may be empty -/
set_option maxRecDepth 100000 in
theorem append_intL {ops : Array Oper} {rest : List Oper} {o : Oper} {a : Act} {Q : Exit → Act → World → Prop} {s x : Operand} {A q : Nat} {v : Value} {l : List Int} {wr : World}
    (hM : RowI A wr.heap.size wr v l) (hA : A ≤ wr.heap.size) (hq : q = wr.heap.size) (n : Int) (hgd : o.guard = none)
    (ho : o.op = .call { callee := .builtin .append, args := #[s, x], argTypes := #[25, 25] }) (hs : a.eval s = v)
    (hx : a.eval x = .slice (some ⟨q, 0, none⟩) 1 1) (hlen : l.length ≤ 4194304)
    (h : ∀ v' w', RowI A w'.heap.size w' v' (l ++ [n]) → wr.grownBy w' v.ownBlock → (∀ g, v'.ownBlock = some g → v.ownBlock = some g ∨ wr.heap.size ≤ g) → wpList Tryz.prog ops Q rest (a.put o.dst v') w') :
    wpList Tryz.prog ops Q (o :: rest) a (wr.alloc (.cells #[.int .i64 n] 3)) := by
  subst hq
  obtain ⟨h1, h2⟩ := hM
  obtain ⟨i0, hi, hz0, hz1, hz2⟩ := info_parts Tryz.infoInt
  have h1a := h1.alloc (.cells #[.int .i64 n] 3)
  have hnew : ∀ j u, [Value.int .i64 n][j]? = some u → (wr.alloc (.cells #[.int .i64 n] 3)).cell? ((⟨wr.heap.size, 0, none⟩ : Addr).add j) = some u := by
    intro j u hu
    match j, hu with
    | 0, hu =>
      simp at hu
      subst hu
      rw [Addr.add_lit, cell_of_row _ wr.heap.size 0 _ _ _ (MapKept.heap_alloc wr _).1]
      rfl
    | j + 1, hu => simp at hu
  have hone : ∀ u ∈ [Value.int .i64 n], u.oneCell' = true := by
    intro u hu
    simp at hu
    subst hu
    rfl
  have hlv : (intsV l).length = l.length := intsV_len l
  obtain ⟨v', w', hr, h3, h4, _⟩ := run_append_own (P := Tryz.prog) (wr.alloc (.cells #[.int .i64 n] 3)) A 25 o.type 3 i0 (.int .i64 0) 1 8 Tryz.underlying25 hi hz0 hz1 hz2 rfl (by omega) v l.length (intsV l) h1a ⟨wr.heap.size, 0, none⟩ 1 1 [.int .i64 n] rfl hnew hone (by unfold maxLen; omega) (by omega) (by simp; omega)
  have hloc : ∀ g, v'.ownBlock = some g → v.ownBlock = some g ∨ wr.heap.size ≤ g := by
    rcases h1.2 with ⟨rfl, he⟩ | ⟨g, cap, cur, rfl, hAg, hg, hn, hc, hsz, ht⟩
    · have hr2 := run_append_nil (P := Tryz.prog) (wr.alloc (.cells #[.int .i64 n] 3)) 25 o.type 3 i0 (.int .i64 0) Tryz.underlying25 hi hz0 ⟨wr.heap.size, 0, none⟩ 1 1 [.int .i64 n] (by rw [hz1]; rfl) hnew (by omega) (by omega) (by rw [hz2]; omega)
      rw [hr] at hr2
      injection hr2 with e1 e2
      subst e1
      intro g' hg'
      right
      have : (wr.alloc (.cells #[.int .i64 n] 3)).heap.size = g' := by simpa [Value.ownBlock] using hg'
      simp at this
      omega
    · have hga : (wr.alloc (.cells #[.int .i64 n] 3)).heap[g]? = some (.cells cur 3 (0, 0)) := by
        rw [(MapKept.heap_alloc wr _).2 g (Array.getElem?_eq_some_iff.1 hg).1]; exact hg
      by_cases hroom : l.length + 1 ≤ cap
      · have hr2 := run_append_room (P := Tryz.prog) (wr.alloc (.cells #[.int .i64 n] 3)) 25 o.type 3 i0 Tryz.underlying25 hi g l.length cap cur hga ⟨wr.heap.size, 0, none⟩ 1 1 [.int .i64 n] (by rw [hz1]; rfl) hnew hone hroom (by rw [hz1]; simp; omega)
        rw [hr] at hr2
        injection hr2 with e1 e2
        subst e1
        intro g' hg'
        exact Or.inl hg'
      · have hr2 := run_append_grow (P := Tryz.prog) (wr.alloc (.cells #[.int .i64 n] 3)) 25 o.type 3 i0 (.int .i64 0) Tryz.underlying25 hi hz0 ⟨g, 0, none⟩ l.length cap (intsV l) (by rw [hz1, hlv]; omega) (h1a.cells (g := g) rfl) ⟨wr.heap.size, 0, none⟩ 1 1 [.int .i64 n] (by rw [hz1]; rfl) hnew (by omega) (by omega) (growslice_fits (by omega) (by rw [hz2]; omega))
        rw [hr] at hr2
        injection hr2 with e1 e2
        subst e1
        intro g' hg'
        right
        have : (wr.alloc (.cells #[.int .i64 n] 3)).heap.size = g' := by simpa [Value.ownBlock] using hg'
        simp at this
        omega
  refine Lib.wpList_append_run _ hgd s x 25 25 ho _ _ hs hx v' w' hr ?_
  refine h v' w' ⟨?_, fun g hgg => (h3.lt g hgg).2⟩ ⟨h4.os, h4.tape, h4.output, by have := h4.size; simp at this; omega, fun k hk hn => ?_⟩ hloc
  · have e : intsV l ++ [.int .i64 n] = intsV (l ++ [n]) := by simp [intsV]
    rw [e] at h3
    rw [List.length_append]
    exact h3
  · rw [h4.block k (by simp; omega) hn]
    exact (MapKept.heap_alloc wr _).2 k hk

/-! ### Minors -/
/-- One set of the table: the matrix of its points and its minor. -/
theorem minor_ok {m : List (List Int)} (hI : IsC m) {t : Nat} (ht : t < 2 ^ m.length - 1) :
    subM m (intL (setK (t + 1) m.length)) = pick m (intL (setK (t + 1) m.length)) ∧ subB m (intL (setK (t + 1) m.length)) = true ∧ (setK (t + 1) m.length).length ≤ 4 ∧
      (pick m (intL (setK (t + 1) m.length))).length = (setK (t + 1) m.length).length ∧ Rows0 (pick m (intL (setK (t + 1) m.length))) (setK (t + 1) m.length).length (setK (t + 1) m.length).length ∧ Bd (pick m (intL (setK (t + 1) m.length))) := by
  have hs := set_sub hI ht
  have h4 := hI.2.2.2
  have hr := pick_rows m (intL (setK (t + 1) m.length))
  rw [intL_len] at hr
  exact ⟨subM_yes hs, subB_yes hs, Nat.le_trans (setK_len _ _) h4, by rw [pick_len, intL_len], hr, pick_bd (isC_bd hI) _⟩

end Go.Proofs.YtcmnkhblnlmfpaaGreatDoor
namespace Go.Proofs.YtcmnkhblnlmfpaaGreatDoor
open Go.RowKit

def connB (m : Nat) : Bool := decide (m = 1)
theorem connB_int (L : Nat) : ((L : Int) == 1) = connB L := by
  unfold connB
  by_cases h : L = 1
  · subst h; rfl
  · rw [decide_eq_false h, beq_eq_false_iff_ne]; omega

set_option maxHeartbeats 1000000 in
set_option maxRecDepth 100000 in
theorem coni_any (B : Nat) (v : Value) (m : List (List Int)) (w : World) (h : MatB B w v m) (hB : B ≤ w.heap.size) (hf : RowsFit m) :
    Calls Tryz.prog 115 #[v] w fun e w' => e = .returned (.bool (connB (partsV m).length)) ∧ Below w.heap.size w w' := by
  have HL := Lib.hid (connB_int (partsV m).length)
  have HP := Lib.hid (parti_any B v m w h hB hf)
  go_enter Tryz.func115, Tryz.ntmps115
  go_wp2_with fail
  refine HP.out.mono ?_
  rintro e w2 ⟨x, rfl, hx, hb⟩
  obtain ⟨xa, xcap, rfl⟩ := hx.1.slice
  have HB := Lib.hid hb
  clear hx hb
  generalize hpl : (partsV m).length = L at *
  have HPL := Lib.hid hpl; clear hpl
  go_wp2_with fail
  go_ret
  exact ⟨ret_boolean (by rw [HPL.out]; exact HL.out), HB.out⟩

/-! ### HasCycle -/
def cntK (E : Nat → Nat → Bool) (k j : Nat) : Nat := ((List.range j).filter (E k)).length
theorem cntK_le (E : Nat → Nat → Bool) (k j : Nat) : cntK E k j ≤ j := Nat.le_trans (List.length_filter_le _ _) (by rw [List.length_range]; exact Nat.le_refl _)
theorem cntK_yes {E : Nat → Nat → Bool} {k j : Nat} (h : E k j = true) : cntK E k (j + 1) = cntK E k j + 1 := by
  unfold cntK
  rw [List.range_succ, List.filter_append]
  simp [h]
theorem cntK_no {E : Nat → Nat → Bool} {k j : Nat} (h : E k j = false) : cntK E k (j + 1) = cntK E k j := by
  unfold cntK
  rw [List.range_succ, List.filter_append]
  simp [h]
theorem edgesN_succ (E : Nat → Nat → Bool) (k : Nat) : edgesN E (k + 1) = edgesN E k + cntK E k k := by
  unfold edgesN cntK
  rw [List.range_succ, List.map_append, List.sum_append]
  simp
theorem edgesN_le (E : Nat → Nat → Bool) (k : Nat) (hk : k ≤ 5) : edgesN E k ≤ 4 * k := by
  induction k with
  | zero => exact Nat.le_refl _
  | succ k ih =>
    rw [edgesN_succ]
    have h1 := ih (by omega)
    have h2 := cntK_le E k k
    omega
noncomputable def endsV (m : List (List Int)) (k : Nat) : Nat := ((List.range k).map fun i => (nbs m ((i : Nat) : Int)).length).sum
theorem endsV_succ (m : List (List Int)) (k : Nat) : endsV m (k + 1) = endsV m k + (nbs m (k : Int)).length := by
  unfold endsV
  rw [List.range_succ, List.map_append, List.sum_append]
  simp
theorem endsV_bad {m : List (List Int)} (h : ¬ IsC m) (k : Nat) : endsV m k = 0 := by
  induction k with
  | zero => rfl
  | succ k ih => rw [endsV_succ, ih, nbs_no (fun hh => h hh.1)]; rfl
theorem endsV_le {m : List (List Int)} (k : Nat) (hk : k ≤ m.length) : endsV m k ≤ 16 := by
  by_cases h : IsC m
  · have h4 := h.2.2.2
    have : endsV m k ≤ 4 * k := by
      clear hk
      induction k with
      | zero => exact Nat.le_refl _
      | succ k ih => rw [endsV_succ]; have := nbs_len m (k : Int); omega
    omega
  · rw [endsV_bad h]; omega
theorem endsV_good {m : List (List Int)} (h : IsC m) (k : Nat) (hk : k ≤ m.length) : endsV m k = endsN (nbG m m.length) k := by
  unfold endsV endsN
  congr 1
  apply List.map_congr_left
  intro i hi
  have hi := List.mem_range.1 hi
  rw [nbs_yes ⟨h, by omega⟩, nbK_eq, intL_len]
  rfl
open Classical in
noncomputable def cycB (m : List (List Int)) : Bool := decide (IsC m ∧ (m.length : Int) - ((partsV m).length : Nat) < ((edgesN (nbF m) m.length : Nat) : Int))
open Classical in
theorem cycB_good {m : List (List Int)} (h : IsC m) : cycB m = decide ((m.length : Int) - ((partsV m).length : Nat) < ((edgesN (nbF m) m.length : Nat) : Int)) := by
  unfold cycB
  rw [decide_eq_decide]
  exact ⟨fun h => h.2, fun h' => ⟨h, h'⟩⟩
open Classical in
theorem cycB_bad {m : List (List Int)} (h : ¬ IsC m) : cycB m = false := decide_eq_false (fun hh => h hh.1)

end Go.Proofs.YtcmnkhblnlmfpaaGreatDoor
namespace Go.Proofs.YtcmnkhblnlmfpaaGreatDoor
open Go.RowKit

/-! ### IsFinite -/
open Classical in
noncomputable def finB (m : List (List Int)) : Bool := decide (IsC m ∧ (witV m).length = 0)
open Classical in
theorem finB_yes {m : List (List Int)} (h : IsC m) : finB m = decide ((witV m).length = 0) := by
  unfold finB
  rw [decide_eq_decide]
  exact ⟨fun h => h.2, fun h' => ⟨h, h'⟩⟩
open Classical in
theorem finB_no {m : List (List Int)} (h : ¬ IsC m) : finB m = false := decide_eq_false (fun hh => h hh.1)
theorem len_int0 (L : Nat) : ((L : Int) == 0) = decide (L = 0) := by
  by_cases h : L = 0
  · subst h; rfl
  · rw [decide_eq_false h, beq_eq_false_iff_ne]; omega

end Go.Proofs.YtcmnkhblnlmfpaaGreatDoor
namespace Go.Proofs.YtcmnkhblnlmfpaaGreatDoor
open Go.RowKit

def affC (c : Bool) (l : List Int) : Prop := c = true ∧ l.getD (l.length - 1) 0 = 0 ∧ ∀ i, i + 1 < l.length → 0 < l.getD i 0
open Classical in
noncomputable def affB (c : Bool) (l : List Int) : Bool := decide (affC c l)
open Classical in
theorem affB_yes {c : Bool} {l : List Int} (h : affC c l) : affB c l = true := decide_eq_true h
open Classical in
theorem affB_no {c : Bool} {l : List Int} (h : ¬ affC c l) : affB c l = false := decide_eq_false h
theorem conn_isC {m : List (List Int)} (h : connB (partsV m).length = true) : IsC m := Classical.byContradiction fun hn => by
  rw [partsV_no hn] at h
  exact absurd h (by decide)
theorem minV_pos {m : List (List Int)} (h : IsC m) : 1 ≤ (minV m).length := by
  rw [minV_yes h, minK_len]
  rcases (show m.length = 1 ∨ m.length = 2 ∨ m.length = 3 ∨ m.length = 4 by have := h.2.2; omega) with e | e | e | e <;> rw [e] <;> decide

end Go.Proofs.YtcmnkhblnlmfpaaGreatDoor
