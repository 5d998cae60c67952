/-
  Slices that the call itself made, element by element: the law for one more element (over any program).
  Lists of ints and matrices that can be read: what a value reads as, below a block.
  The laws' own helpers on ints and matrices: sizes, equality, copies: what each call returns.
  The model's range test: what the call returns.
-/
import Derived.Handy
import Derived.Lib.Hide
import Derived.Deep.DeepMust
import Derived.Deep.RegionLaw
import Derived.OwnWalk
import Derived.Test.YtnlbmnielemgiaaGreatRows
import Derived.ProofKit
import Derived.BigQuiet
import Derived.Deep.QuietTactic
namespace Go.Proofs.YtnlbmnielemgiaaGreat
open Go.RowKit

/-- 'append(s, u)' of one element of one cell, on a slice of the call's own: the literal of one element has just been made. -/
theorem append_one {P : Program} {ops : Array Oper} {rest : List Oper} {o : Oper} {a : Act} {Q : Exit → Act → World → Prop} (hgd : o.guard = none) (s x : Operand) (t : TypeId)
    (ho : o.op = .call { callee := .builtin .append, args := #[s, x], argTypes := #[t, t] })
    (base : Nat) (e : TypeId) (i : TypeInfo) (z : Value) (bytes : Nat) (ht : P.underlying t = some (.slice e)) (hi : P.info? e = some i) (hz : i.zero = some z)
    (hsize : i.size = 1) (hby : i.bytes = bytes) (hzs : z.cells.size = 1)
    (v : Value) (xs : List Value) (u : Value) (hu : u.oneCell' = true) (wr : World) (hs : a.eval s = v) (hown : wr.ownsRow base e 1 v xs.length xs)
    (hx : a.eval x = .slice (some ⟨wr.heap.size, 0, none⟩) 1 1) (hlen : (xs.length + 1) * bytes ≤ 140737488355328) (hb1 : 1 ≤ bytes) (hbase : base ≤ wr.heap.size)
    (h : ∀ v' w', w'.ownsRow base e 1 v' (xs ++ [u]).length (xs ++ [u]) → (∀ W, Below base W wr → Below base W w') → base ≤ w'.heap.size → wpList P ops Q rest (a.put o.dst v') w') :
    wpList P ops Q (o :: rest) a (wr.alloc (.cells #[u] e)) := by
  have hmul : xs.length + 1 ≤ (xs.length + 1) * bytes := Nat.le_mul_of_pos_right _ hb1
  refine wpList_append_own _ hgd s x t ho base e i z 1 bytes ht hi hz hsize hby hzs (by omega) v xs.length xs hs (hown.alloc _) ⟨wr.heap.size, 0, none⟩ 1 1 [u] hx rfl ?_ ?_ ?_ ?_ ?_ ?_
  · intro j u' hj
    match j, hj with
    | 0, hj =>
      simp at hj
      subst hj
      rw [show (⟨wr.heap.size, 0, none⟩ : Addr).add 0 = ⟨wr.heap.size, 0, none⟩ from rfl, World.cell?_alloc_at _ _ _ _ rfl]
      rfl
    | j + 1, hj => simp at hj
  · intro u' hu'
    simp at hu'
    subst hu'
    exact hu
  · unfold maxLen; omega
  · exact hlen
  · simp; omega
  · intro v' w' ho' hg _
    refine h v' w' (by simpa using ho') (fun W hW => (hW.alloc hbase _).grown hg (by simp; omega) (fun j hj => (hown.lt j hj).1)) ?_
    have := hg.size; simp at this; omega

/-- 'append(s, u0, u1, ..)' of elements of one cell, on a slice of the call's own: the literal of the new elements has just been made. -/
theorem append_many {P : Program} {ops : Array Oper} {rest : List Oper} {o : Oper} {a : Act} {Q : Exit → Act → World → Prop} (hgd : o.guard = none) (s x : Operand) (t : TypeId)
    (ho : o.op = .call { callee := .builtin .append, args := #[s, x], argTypes := #[t, t] })
    (base : Nat) (e : TypeId) (i : TypeInfo) (z : Value) (bytes : Nat) (ht : P.underlying t = some (.slice e)) (hi : P.info? e = some i) (hz : i.zero = some z)
    (hsize : i.size = 1) (hby : i.bytes = bytes) (hzs : z.cells.size = 1)
    (v : Value) (xs us : List Value) (hu : ∀ u ∈ us, u.oneCell' = true) (wr : World) (hs : a.eval s = v) (hown : wr.ownsRow base e 1 v xs.length xs)
    (hx : a.eval x = .slice (some ⟨wr.heap.size, 0, none⟩) us.length us.length) (hlen : (xs.length + us.length) * bytes ≤ 140737488355328) (hb1 : 1 ≤ bytes) (hbase : base ≤ wr.heap.size)
    (h : ∀ v' w', w'.ownsRow base e 1 v' (xs ++ us).length (xs ++ us) → (∀ W, Below base W wr → Below base W w') → base ≤ w'.heap.size → wpList P ops Q rest (a.put o.dst v') w') :
    wpList P ops Q (o :: rest) a (wr.alloc (.cells us.toArray e)) := by
  have hmul : xs.length + us.length ≤ (xs.length + us.length) * bytes := Nat.le_mul_of_pos_right _ hb1
  refine wpList_append_own _ hgd s x t ho base e i z 1 bytes ht hi hz hsize hby hzs (by omega) v xs.length xs hs (hown.alloc _) ⟨wr.heap.size, 0, none⟩ us.length us.length us hx (by omega) ?_ hu ?_ ?_ ?_ ?_
  · intro j u' hj
    have hadd : (⟨wr.heap.size, 0, none⟩ : Addr).add j = ⟨wr.heap.size, j, none⟩ := by unfold Addr.add; split <;> simp_all
    rw [hadd, World.cell?_alloc_at _ _ _ _ rfl]
    simpa using hj
  · unfold maxLen; omega
  · exact hlen
  · simp; omega
  · intro v' w' ho' hg _
    refine h v' w' (by simpa using ho') (fun W hW => (hW.alloc hbase _).grown hg (by simp; omega) (fun j hj => (hown.lt j hj).1)) ?_
    have := hg.size; simp at this; omega

/-- The same as one step of a region that draws its order: the literal's block lies at g, in whatever world. -/
theorem step_many {P : Program} {ops : Array Oper} {o : Oper} {a : Act} {K : Act → World → Prop} {Q : Exit → Act → World → Prop} {E : Prop} {w : World} (hgd : o.guard = none) (s x : Operand) (t : TypeId)
    (ho : o.op = .call { callee := .builtin .append, args := #[s, x], argTypes := #[t, t] })
    (base : Nat) (e : TypeId) (i : TypeInfo) (z : Value) (bytes : Nat) (ht : P.underlying t = some (.slice e)) (hi : P.info? e = some i) (hz : i.zero = some z)
    (hsize : i.size = 1) (hby : i.bytes = bytes) (hzs : z.cells.size = 1)
    (v : Value) (xs us : List Value) (g : Nat) (hu : ∀ u ∈ us, u.oneCell' = true) (hs : a.eval s = v) (hown : w.ownsRow base e 1 v xs.length xs)
    (hx : a.eval x = .slice (some ⟨g, 0, none⟩) us.length us.length) (hnew : w.heap[g]? = some (.cells us.toArray e (0, 0))) (hlen : (xs.length + us.length) * bytes ≤ 140737488355328) (hb1 : 1 ≤ bytes) (hbase : base ≤ w.heap.size)
    (h : ∀ v' w', w'.ownsRow base e 1 v' (xs ++ us).length (xs ++ us) → (∀ W, Below base W w → Below base W w') → base ≤ w'.heap.size → K (a.put o.dst v') w') :
    if Region.wanted o (yielded ops a.tmps) = true then Oper.wp P o a w K Q else E := by
  have hw : Region.wanted o (yielded ops a.tmps) = true := by simp [Region.wanted, hgd]
  rw [if_pos hw]
  have hmul : xs.length + us.length ≤ (xs.length + us.length) * bytes := Nat.le_mul_of_pos_right _ hb1
  refine wp_append_own w s x t ho base e i z 1 bytes ht hi hz hsize hby hzs (by omega) v xs.length xs hs hown ⟨g, 0, none⟩ us.length us.length us hx (by omega) ?_ hu ?_ hlen hbase ?_
  · intro j u' hj
    have hadd : (⟨g, 0, none⟩ : Addr).add j = ⟨g, j, none⟩ := by unfold Addr.add; split <;> simp_all
    rw [hadd, cell_of_row w g j us.toArray e (0, 0) hnew]
    simpa using hj
  · unfold maxLen; omega
  · intro v' w' ho' hg _
    refine h v' w' (by simpa using ho') (fun W hW => hW.grown hg hbase (fun j hj => (hown.lt j hj).1)) ?_
    have := hg.size; omega
end Go.Proofs.YtnlbmnielemgiaaGreat
namespace Go.Proofs.YtnlbmnielemgiaaGreat
open Go.RowKit

/-- The value reads as this list of ints, from a block below B. -/
def RowB (B : Nat) (w : World) (v : Value) (l : List Int) : Prop :=
  (l = [] ∧ ∃ a cap, v = .slice a 0 cap) ∨ ∃ b off cap, v = .slice (some ⟨b, off, none⟩) l.length cap ∧ b < B ∧ ∀ j (h : j < l.length), w.cell? ⟨b, off + j, none⟩ = some (.int .i64 l[j])
theorem RowB.below {B B' : Nat} {w w' : World} {v : Value} {l : List Int} (h : RowB B w v l) (hb : Below B' w w') (hB : B ≤ B') : RowB B w' v l := by
  rcases h with h | ⟨b, off, cap, h1, h2, h3⟩
  · exact Or.inl h
  · exact Or.inr ⟨b, off, cap, h1, h2, fun j hj => (hb.cell (p := ⟨b, off + j, none⟩) (by show b < B'; omega)).trans (h3 j hj)⟩
theorem RowB.mono {B B' : Nat} {w : World} {v : Value} {l : List Int} (h : RowB B w v l) (hB : B ≤ B') : RowB B' w v l := by
  rcases h with h | ⟨b, off, cap, h1, h2, h3⟩
  · exact Or.inl h
  · exact Or.inr ⟨b, off, cap, h1, by omega, h3⟩
theorem RowB.slice {B : Nat} {w : World} {v : Value} {l : List Int} (h : RowB B w v l) : ∃ a cap, v = .slice a l.length cap := by
  rcases h with ⟨rfl, a, cap, rfl⟩ | ⟨b, off, cap, rfl, _, _⟩
  · exact ⟨a, cap, rfl⟩
  · exact ⟨_, cap, rfl⟩
/-- One int of the list. -/
theorem RowB.get {B : Nat} {w : World} {a : Option Addr} {n cap : Nat} {l : List Int} (h : RowB B w (.slice a n cap) l) {j : Nat} (hj : j < n) :
    ∃ b off, ∃ hl : j < l.length, a = some ⟨b, off, none⟩ ∧ b < B ∧ w.cell? ⟨b, off + j, none⟩ = some (.int .i64 l[j]) := by
  rcases h with ⟨rfl, a', cap', h⟩ | ⟨b, off, cap', h, h2, h3⟩
  · injection h with h1 h2 h3; omega
  · injection h with h4 h5 h6
    subst h4
    exact ⟨b, off, by omega, rfl, h2, h3 j (by omega)⟩

/-- The value reads as this list of lists, every block below B. -/
def MatB (B : Nat) (w : World) (v : Value) (m : List (List Int)) : Prop :=
  (m = [] ∧ ∃ a cap, v = .slice a 0 cap) ∨ ∃ b off cap, v = .slice (some ⟨b, off, none⟩) m.length cap ∧ b < B ∧ ∀ j (h : j < m.length), ∃ rv, w.cell? ⟨b, off + j, none⟩ = some rv ∧ RowB B w rv m[j]
theorem MatB.below {B B' : Nat} {w w' : World} {v : Value} {m : List (List Int)} (h : MatB B w v m) (hb : Below B' w w') (hB : B ≤ B') : MatB B w' v m := by
  rcases h with h | ⟨b, off, cap, h1, h2, h3⟩
  · exact Or.inl h
  · refine Or.inr ⟨b, off, cap, h1, h2, fun j hj => ?_⟩
    obtain ⟨rv, h4, h5⟩ := h3 j hj
    exact ⟨rv, (hb.cell (p := ⟨b, off + j, none⟩) (by show b < B'; omega)).trans h4, h5.below hb hB⟩
theorem MatB.mono {B B' : Nat} {w : World} {v : Value} {m : List (List Int)} (h : MatB B w v m) (hB : B ≤ B') : MatB B' w v m := by
  rcases h with h | ⟨b, off, cap, h1, h2, h3⟩
  · exact Or.inl h
  · refine Or.inr ⟨b, off, cap, h1, by omega, fun j hj => ?_⟩
    obtain ⟨rv, h4, h5⟩ := h3 j hj
    exact ⟨rv, h4, h5.mono hB⟩
theorem MatB.slice {B : Nat} {w : World} {v : Value} {m : List (List Int)} (h : MatB B w v m) : ∃ a cap, v = .slice a m.length cap := by
  rcases h with ⟨rfl, a, cap, rfl⟩ | ⟨b, off, cap, rfl, _, _⟩
  · exact ⟨a, cap, rfl⟩
  · exact ⟨_, cap, rfl⟩
/-- One row of the matrix, its header and its address. -/
theorem MatB.get {B : Nat} {w : World} {a : Option Addr} {n cap : Nat} {m : List (List Int)} (h : MatB B w (.slice a n cap) m) {j : Nat} (hj : j < n) :
    ∃ b off, ∃ hl : j < m.length, a = some ⟨b, off, none⟩ ∧ b < B ∧ ∃ ra rcap, w.cell? ⟨b, off + j, none⟩ = some (.slice ra m[j].length rcap) ∧ RowB B w (.slice ra m[j].length rcap) m[j] := by
  rcases h with ⟨rfl, a', cap', h⟩ | ⟨b, off, cap', h, h2, h3⟩
  · injection h with h1 h2 h3; omega
  · injection h with h4 h5 h6
    subst h4
    have hjl : j < m.length := by omega
    obtain ⟨rv, h7, h8⟩ := h3 j hjl
    obtain ⟨ra, rcap, h9⟩ := h8.slice
    rw [h9] at h7 h8
    exact ⟨b, off, hjl, rfl, h2, ra, rcap, h7, h8⟩
end Go.Proofs.YtnlbmnielemgiaaGreat
namespace Go.Proofs.YtnlbmnielemgiaaGreat
open Go.RowKit

def szSum (m : List (List Int)) : Nat := m.length + (m.map List.length).sum
def szI (left n : Nat) : Int := if n ≤ left then (left : Int) - n else -1
theorem szI_yes {left n : Nat} (h : n ≤ left) : szI left n = (left : Int) - n := if_pos h
theorem szI_no {left n : Nat} (h : ¬ n ≤ left) : szI left n = -1 := if_neg h
theorem ret_int {a b : Int} (h : a = b) : Ending.returned (.int .i64 a) = .returned (.int .i64 b) := by rw [h]

theorem sum_take_succ (m : List (List Int)) (k : Nat) (h : k < m.length) : ((m.take (k + 1)).map List.length).sum = ((m.take k).map List.length).sum + m[k].length := by
  rw [List.take_succ_eq_append_getElem h, List.map_append, List.sum_append]
  simp only [List.map_cons, List.map_nil, List.sum_cons, List.sum_nil]; omega
theorem sum_take_le (m : List (List Int)) (k : Nat) : ((m.take k).map List.length).sum ≤ (m.map List.length).sum := by
  have h := congrArg List.sum (congrArg (List.map List.length) (List.take_append_drop k m))
  rw [List.map_append, List.sum_append] at h
  omega

def SzRel (n : Nat) (m : List (List Int)) (left k r : Nat) : Prop := r + n + ((m.take k).map List.length).sum = left
/-- What every row of a value that is read keeps to. -/
def RowsFit (m : List (List Int)) : Prop := m.length ≤ maxLen ∧ ∀ j (h : j < m.length), m[j].length ≤ maxLen

/-- Two lists are the same. -/
def eqL (a b : List Int) : Bool := decide (a = b)
theorem eqL_yes {a b : List Int} (h : a = b) : eqL a b = true := decide_eq_true h
theorem eqL_no {a b : List Int} (h : ¬ a = b) : eqL a b = false := decide_eq_false h
theorem ret_boolean {a b : Bool} (h : a = b) : Ending.returned (.bool a) = .returned (.bool b) := by rw [h]
def Pre (a b : List Int) (k : Nat) : Prop := a.take k = b.take k
theorem pre_step {a b : List Int} {k : Nat} (ha : k < a.length) (hb : k < b.length) (h : Pre a b k) (he : a[k] = b[k]) : Pre a b (k + 1) := by
  unfold Pre at *
  rw [List.take_succ_eq_append_getElem ha, List.take_succ_eq_append_getElem hb, h, he]

/-- Two matrices are the same. -/
def eqM (a b : List (List Int)) : Bool := decide (a = b)
theorem eqM_yes {a b : List (List Int)} (h : a = b) : eqM a b = true := decide_eq_true h
theorem eqM_no {a b : List (List Int)} (h : ¬ a = b) : eqM a b = false := decide_eq_false h
def PreM (a b : List (List Int)) (k : Nat) : Prop := a.take k = b.take k
theorem preM_step {a b : List (List Int)} {k : Nat} (ha : k < a.length) (hb : k < b.length) (h : PreM a b k) (he : a[k] = b[k]) : PreM a b (k + 1) := by
  unfold PreM at *
  rw [List.take_succ_eq_append_getElem ha, List.take_succ_eq_append_getElem hb, h, he]
theorem RowB.drewN {B : Nat} {w : World} {v : Value} {l : List Int} (h : RowB B w v l) (q : Nat) : RowB B (w.drewN q) v l := h

/-- A callee that only draws, met in a region behind other draws. -/
theorem quiet_more {P : Program} {f : FuncId} {args : Array Value} {w : World} {v : Value} (h : ∀ x, Calls P f args (w.drewN x) fun e w' => e = .returned v ∧ ∃ m, w' = (w.drewN x).drewN m) (a n : Nat) :
    Calls P f args (w.drewN (a + n)) fun e w'' => e = .returned v ∧ ∃ m, w'' = w.drewN (a + m) :=
  (h (a + n)).mono fun _ _ ⟨he, m, hm⟩ => ⟨he, n + m, by rw [hm, World.drewN_drewN, Nat.add_assoc]⟩

/-! ### Copies -/
def intsV (l : List Int) : List Value := l.map (Value.int .i64)
theorem intsV_len (l : List Int) : (intsV l).length = l.length := by simp [intsV]
def cpSt (l : List Int) (k : Nat) : List Int := l.take k ++ List.replicate (l.length - k) 0
theorem cpSt_zero (l : List Int) : cpSt l 0 = List.replicate l.length 0 := by simp [cpSt]
theorem cpSt_end (l : List Int) : cpSt l l.length = l := by simp [cpSt]
theorem cpSt_len (l : List Int) (k : Nat) (h : k ≤ l.length) : (cpSt l k).length = l.length := by
  simp only [cpSt, List.length_append, List.length_take, List.length_replicate]; omega
theorem cpSt_step (l : List Int) (k : Nat) (h : k < l.length) : cpSt l (k + 1) = (cpSt l k).set k l[k] := by
  have hl := cpSt_len l k (by omega)
  apply List.ext_getElem?
  intro i
  rw [List.getElem?_set]
  by_cases hi : k = i
  · subst hi
    rw [if_pos rfl, if_pos (by omega)]
    unfold cpSt
    rw [List.getElem?_append_left (by rw [List.length_take]; omega), List.getElem?_take_of_lt (by omega), List.getElem?_eq_getElem h]
  · rw [if_neg hi]
    unfold cpSt
    rcases Nat.lt_or_ge i k with h1 | h1
    · rw [List.getElem?_append_left (by rw [List.length_take]; omega), List.getElem?_append_left (by rw [List.length_take]; omega), List.getElem?_take_of_lt (by omega), List.getElem?_take_of_lt h1]
    · rw [List.getElem?_append_right (by rw [List.length_take]; omega), List.getElem?_append_right (by rw [List.length_take]; omega)]
      simp only [List.length_take, List.getElem?_replicate]
      rw [Nat.min_eq_left (by omega), Nat.min_eq_left (by omega)]
      by_cases h2 : i < l.length
      · rw [if_pos (by omega), if_pos (by omega)]
      · rw [if_neg (by omega), if_neg (by omega)]
theorem cpSt_cells (l : List Int) (k : Nat) (h : k < l.length) : (intsV (cpSt l k)).set k (.int .i64 l[k]) = intsV (cpSt l (k + 1)) := by
  rw [cpSt_step l k h]; simp [intsV, List.map_set]
theorem cpSt_cell (l : List Int) (k : Nat) (h : k < l.length) : ∃ c : Value, (intsV (cpSt l k))[k]? = some c := by
  have hl := cpSt_len l k (by omega)
  exact ⟨_, List.getElem?_eq_getElem (by rw [intsV_len]; omega)⟩
theorem madeI64 (n : Nat) : (madeCells (Value.int .i64 0).cells n).toList = intsV (List.replicate n 0) := by
  apply List.ext_getElem
  · simp [madeCells, intsV]
  · intro i h1 h2
    simp [madeCells, intsV, Value.cells, Nat.mod_one]
theorem Tryz.infoInt : (Tryz.prog.info? 3).map (fun i => (i.zero, i.size, i.bytes)) = some (some (.int .i64 0), 1, 8) := by kernel_rfl

theorem blk_set {w : World} {C : Nat} {cs : Array Value} {t : TypeId} (hC : w.heap[C]? = some (.cells cs t (0, 0))) (j : Nat) (v : Value) : (w.setCell ⟨C, j, none⟩ v).heap[C]? = some (.cells (cs.setIfInBounds j v) t (0, 0)) := by
  unfold World.setCell
  simp only [Array.getElem?_modify, if_pos, hC, Option.map_some, Option.isSome_none, Bool.false_eq_true, if_false]
theorem blk_other {w : World} {C k : Nat} (j : Nat) (v : Value) (hne : k ≠ C) : (w.setCell ⟨C, j, none⟩ v).heap[k]? = w.heap[k]? := by
  unfold World.setCell
  simp [Array.getElem?_modify, hne.symm]

/-- The headers of the rows, as the copy lays them: row j in block O + 1 + j. -/
def hdr (O : Nat) (m : List (List Int)) (j : Nat) : Value := .slice (some ⟨O + 1 + j, 0, none⟩) (m.getD j []).length (m.getD j []).length
def hdrSt (O : Nat) (m : List (List Int)) (k : Nat) : List Value := (List.range m.length).map fun j => if j < k then hdr O m j else .slice none 0 0
theorem hdrSt_len (O : Nat) (m : List (List Int)) (k : Nat) : (hdrSt O m k).length = m.length := by simp [hdrSt]
theorem hdrSt_step (O : Nat) (m : List (List Int)) (k : Nat) (_h : k < m.length) : (hdrSt O m k).set k (hdr O m k) = hdrSt O m (k + 1) := by
  apply List.ext_getElem
  · simp [hdrSt]
  · intro i h1 h2
    have hi : i < m.length := by simpa [hdrSt] using h2
    rw [List.getElem_set]
    by_cases e : k = i
    · subst e; simp [hdrSt]
    · rw [if_neg e]
      simp only [hdrSt, List.getElem_map, List.getElem_range]
      by_cases h3 : i < k
      · rw [if_pos h3, if_pos (by omega)]
      · rw [if_neg h3, if_neg (by omega)]
theorem hdrSt_zero (O : Nat) (m : List (List Int)) : hdrSt O m 0 = List.replicate m.length (.slice none 0 0) := by
  apply List.ext_getElem
  · simp [hdrSt]
  · intro i h1 h2; simp [hdrSt]
theorem hdrSt_get (O : Nat) (m : List (List Int)) (k j : Nat) (hj : j < m.length) (hk : j < k) : (hdrSt O m k)[j]? = some (hdr O m j) := by
  simp [hdrSt, hj, hk]
theorem hdrSt_old (O : Nat) (m : List (List Int)) (k : Nat) (hk : k < m.length) : (hdrSt O m k)[k]? = some (.slice none 0 0) := by
  simp [hdrSt, hk]

/-- A matrix as the copy lays it: the headers in block O, row j in block O + 1 + j; the first k rows are there. -/
def CopySt (O : Nat) (m : List (List Int)) (k : Nat) (w : World) : Prop :=
  w.heap[O]? = some (.cells (hdrSt O m k).toArray 25 (0, 0)) ∧ w.heap.size = O + 1 + k ∧ ∀ j (h : j < m.length), j < k → w.heap[O + 1 + j]? = some (.cells (intsV m[j]).toArray 3 (0, 0))
theorem row_cells {w : World} {b : Nat} {l : List Int} {t : TypeId} (h : w.heap[b]? = some (.cells (intsV l).toArray t (0, 0))) (B : Nat) (hB : b < B) (cap : Nat) : RowB B w (.slice (some ⟨b, 0, none⟩) l.length cap) l := by
  refine Or.inr ⟨b, 0, cap, rfl, hB, fun j hj => ?_⟩
  rw [cell_of_row w b (0 + j) _ _ _ h]
  simp [intsV, hj]
theorem CopySt.mat {O : Nat} {m : List (List Int)} {w : World} (h : CopySt O m m.length w) (cap : Nat) : MatB (O + 1 + m.length) w (.slice (some ⟨O, 0, none⟩) m.length cap) m := by
  obtain ⟨h1, h2, h3⟩ := h
  refine Or.inr ⟨O, 0, cap, rfl, by omega, fun j hj => ⟨hdr O m j, ?_, ?_⟩⟩
  · rw [cell_of_row w O (0 + j) _ _ _ h1]
    have := hdrSt_get O m m.length j hj hj
    simpa using this
  · have hg : m.getD j [] = m[j] := by simp [List.getD, hj]
    unfold hdr
    rw [hg]
    exact row_cells (h3 j hj hj) _ (by omega) _
theorem copy_step {O : Nat} {m : List (List Int)} {k : Nat} {w : World} (h : CopySt O m k w) (hk : k < m.length) :
    CopySt O m (k + 1) ((w.alloc (.cells (intsV m[k]).toArray 3)).setCell ⟨O, k, none⟩ (hdr O m k)) := by
  obtain ⟨h1, h2, h3⟩ := h
  have hO : (w.alloc (.cells (intsV m[k]).toArray 3)).heap[O]? = some (.cells (hdrSt O m k).toArray 25 (0, 0)) := by
    rw [(MapKept.heap_alloc w _).2 O (by omega)]; exact h1
  refine ⟨?_, ?_, ?_⟩
  · rw [blk_set hO k, ← hdrSt_step O m k hk]
    congr 2
    simp
  · rw [World.size_setCell, World.size_alloc]; omega
  · intro j hj hjk
    have hne : O + 1 + j ≠ O := by omega
    rw [blk_other _ _ hne]
    rcases Nat.lt_or_ge j k with h' | h'
    · rw [(MapKept.heap_alloc w _).2 (O + 1 + j) (by omega)]; exact h3 j hj h'
    · have : j = k := by omega
      subst this
      rw [show O + 1 + j = w.heap.size by omega]
      exact (MapKept.heap_alloc w _).1

def Small (m : List (List Int)) : Prop := m.length ≤ 1048576 ∧ ∀ j (h : j < m.length), m[j].length ≤ 1048576
theorem Tryz.infoRow : (Tryz.prog.info? 25).map (fun i => (i.zero, i.size, i.bytes)) = some (some (.slice none 0 0), 1, 24) := by kernel_rfl
theorem madeRows (n : Nat) : (madeCells (Value.slice none 0 0).cells n).toList = List.replicate n (.slice none 0 0) := by
  apply List.ext_getElem
  · simp [madeCells]
  · intro i h1 h2
    simp [madeCells, Value.cells, Nat.mod_one]
theorem hdr_eq (O : Nat) (m : List (List Int)) (k : Nat) (h : k < m.length) : hdr O m k = .slice (some ⟨O + 1 + k, 0, none⟩) m[k].length m[k].length := by
  unfold hdr
  have hg : m.getD k [] = m[k] := by simp [List.getD, h]
  rw [hg]

end Go.Proofs.YtnlbmnielemgiaaGreat
namespace Go.Proofs.YtnlbmnielemgiaaGreat
open Go.RowKit

def inB (x a b : Int) : Bool := decide (a ≤ x ∧ x ≤ b)
theorem inB_yes {x a b : Int} (h : a ≤ x ∧ x ≤ b) : inB x a b = true := decide_eq_true h
theorem inB_no {x a b : Int} (h : ¬ (a ≤ x ∧ x ≤ b)) : inB x a b = false := decide_eq_false h
set_option maxHeartbeats 400000 in
theorem l1in_any (x a b : Int) (w : World) :
    Calls Tryz.prog 37 #[.int .i64 x, .int .i64 a, .int .i64 b] w fun e w' => e = .returned (.bool (decide (a ≤ x ∧ x ≤ b))) ∧ w = w' := by
  go_enter Tryz.func37, Tryz.ntmps37
  go_wp2
  all_goals (go_ret; exact ⟨ret_boolean (by simp; try omega), rfl⟩)
theorem l1in_q (x a b : Int) (c : Bool) (hc : inB x a b = c) (w : World) (q : Nat) :
    Calls Tryz.prog 37 #[.int .i64 x, .int .i64 a, .int .i64 b] (w.drewN q) fun e w' => e = .returned (.bool c) ∧ ∃ m, w' = (w.drewN q).drewN m :=
  (l1in_any x a b (w.drewN q)).mono fun e w' ⟨he, hw⟩ => ⟨by rw [he]; exact ret_boolean hc, 0, hw.symm⟩
end Go.Proofs.YtnlbmnielemgiaaGreat
