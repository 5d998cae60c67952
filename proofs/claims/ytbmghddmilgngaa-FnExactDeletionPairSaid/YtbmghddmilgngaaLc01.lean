/-
  Slices that the call itself made, element by element: the law for one more element (over any program).
  Lists of ints and matrices that can be read: what a value reads as, below a block.
-/
import Derived.Handy
import Derived.Lib.Hide
import Derived.Deep.DeepMust
import Derived.Deep.RegionLaw
import Derived.OwnWalk
import Derived.Test.YtbmghddmilgngaaRows
import Derived.ProofKit
namespace Go.Proofs.Ytbmghddmilgngaa
open Go.RowKit

/-- 'append(s, u)' of one element of one cell, on a slice of the call's own: the literal of one element has just been made. -/
theorem append_one {P : Program} {ops : Array Oper} {rest : List Oper} {o : Oper} {a : Act} {Q : Exit → Act → World → Prop} (hgd : o.guard = none) (s x : Operand) (t : TypeId)
    (ho : o.op = .call { callee := .builtin .append, args := #[s, x], argTypes := #[t, t] })
    (base : Nat) (e : TypeId) (i : TypeInfo) (z : Value) (bytes : Nat) (ht : P.underlying t = some (.slice e)) (hi : P.info? e = some i) (hz : i.zero = some z)
    (hsize : i.size = 1) (hby : i.bytes = bytes) (hzs : z.cells.size = 1)
    (v : Value) (xs : List Value) (u : Value) (hu : u.oneCell' = true) (wr : World) (hs : a.eval s = v) (hown : wr.ownsRow base e 1 v xs.length xs)
    (hx : a.eval x = .slice (some ⟨wr.heap.size, 0, none⟩) 1 1) (hlen : (xs.length + 1) * bytes ≤ 140737488355328) (hb1 : 1 ≤ bytes) (hbase : base ≤ wr.heap.size)
    (h : ∀ v' w', w'.ownsRow base e 1 v' (xs ++ [u]).length (xs ++ [u]) → (∀ W, Below base W wr → Below base W w') → base ≤ w'.heap.size → wpList P ops Q rest (a.put o.dst v') w') :
    wpList P ops Q (o :: rest) a (wr.alloc (.cells #[u] e)) := by
  have hmul : xs.length + 1 ≤ (xs.length + 1) * bytes := Nat.le_mul_of_pos_right _ hb1
  refine wpList_append_own _ hgd s x t ho base e i z 1 bytes ht hi hz hsize hby hzs (by omega) v xs.length xs hs (hown.alloc _) ⟨wr.heap.size, 0, none⟩ 1 1 [u] hx rfl ?_ ?_ ?_ ?_ ?_ ?_
  · intro j u' hj
    match j, hj with
    | 0, hj =>
      simp at hj
      subst hj
      rw [show (⟨wr.heap.size, 0, none⟩ : Addr).add 0 = ⟨wr.heap.size, 0, none⟩ from rfl, World.cell?_alloc_at _ _ _ _ rfl]
      rfl
    | j + 1, hj => simp at hj
  · intro u' hu'
    simp at hu'
    subst hu'
    exact hu
  · unfold maxLen; omega
  · exact hlen
  · simp; omega
  · intro v' w' ho' hg _
    refine h v' w' (by simpa using ho') (fun W hW => (hW.alloc hbase _).grown hg (by simp; omega) (fun j hj => (hown.lt j hj).1)) ?_
    have := hg.size; simp at this; omega

/-- 'append(s, u0, u1, ..)' of elements of one cell, on a slice of the call's own: the literal of the new elements has just been made. -/
theorem append_many {P : Program} {ops : Array Oper} {rest : List Oper} {o : Oper} {a : Act} {Q : Exit → Act → World → Prop} (hgd : o.guard = none) (s x : Operand) (t : TypeId)
    (ho : o.op = .call { callee := .builtin .append, args := #[s, x], argTypes := #[t, t] })
    (base : Nat) (e : TypeId) (i : TypeInfo) (z : Value) (bytes : Nat) (ht : P.underlying t = some (.slice e)) (hi : P.info? e = some i) (hz : i.zero = some z)
    (hsize : i.size = 1) (hby : i.bytes = bytes) (hzs : z.cells.size = 1)
    (v : Value) (xs us : List Value) (hu : ∀ u ∈ us, u.oneCell' = true) (wr : World) (hs : a.eval s = v) (hown : wr.ownsRow base e 1 v xs.length xs)
    (hx : a.eval x = .slice (some ⟨wr.heap.size, 0, none⟩) us.length us.length) (hlen : (xs.length + us.length) * bytes ≤ 140737488355328) (hb1 : 1 ≤ bytes) (hbase : base ≤ wr.heap.size)
    (h : ∀ v' w', w'.ownsRow base e 1 v' (xs ++ us).length (xs ++ us) → (∀ W, Below base W wr → Below base W w') → base ≤ w'.heap.size → wpList P ops Q rest (a.put o.dst v') w') :
    wpList P ops Q (o :: rest) a (wr.alloc (.cells us.toArray e)) := by
  have hmul : xs.length + us.length ≤ (xs.length + us.length) * bytes := Nat.le_mul_of_pos_right _ hb1
  refine wpList_append_own _ hgd s x t ho base e i z 1 bytes ht hi hz hsize hby hzs (by omega) v xs.length xs hs (hown.alloc _) ⟨wr.heap.size, 0, none⟩ us.length us.length us hx (by omega) ?_ hu ?_ ?_ ?_ ?_
  · intro j u' hj
    have hadd : (⟨wr.heap.size, 0, none⟩ : Addr).add j = ⟨wr.heap.size, j, none⟩ := by unfold Addr.add; split <;> simp_all
    rw [hadd, World.cell?_alloc_at _ _ _ _ rfl]
    simpa using hj
  · unfold maxLen; omega
  · exact hlen
  · simp; omega
  · intro v' w' ho' hg _
    refine h v' w' (by simpa using ho') (fun W hW => (hW.alloc hbase _).grown hg (by simp; omega) (fun j hj => (hown.lt j hj).1)) ?_
    have := hg.size; simp at this; omega

/-- The same as one step of a region that draws its order: the literal's block lies at g, in whatever world. -/
theorem step_many {P : Program} {ops : Array Oper} {o : Oper} {a : Act} {K : Act → World → Prop} {Q : Exit → Act → World → Prop} {E : Prop} {w : World} (hgd : o.guard = none) (s x : Operand) (t : TypeId)
    (ho : o.op = .call { callee := .builtin .append, args := #[s, x], argTypes := #[t, t] })
    (base : Nat) (e : TypeId) (i : TypeInfo) (z : Value) (bytes : Nat) (ht : P.underlying t = some (.slice e)) (hi : P.info? e = some i) (hz : i.zero = some z)
    (hsize : i.size = 1) (hby : i.bytes = bytes) (hzs : z.cells.size = 1)
    (v : Value) (xs us : List Value) (g : Nat) (hu : ∀ u ∈ us, u.oneCell' = true) (hs : a.eval s = v) (hown : w.ownsRow base e 1 v xs.length xs)
    (hx : a.eval x = .slice (some ⟨g, 0, none⟩) us.length us.length) (hnew : w.heap[g]? = some (.cells us.toArray e (0, 0))) (hlen : (xs.length + us.length) * bytes ≤ 140737488355328) (hb1 : 1 ≤ bytes) (hbase : base ≤ w.heap.size)
    (h : ∀ v' w', w'.ownsRow base e 1 v' (xs ++ us).length (xs ++ us) → (∀ W, Below base W w → Below base W w') → base ≤ w'.heap.size → K (a.put o.dst v') w') :
    if Region.wanted o (yielded ops a.tmps) = true then Oper.wp P o a w K Q else E := by
  have hw : Region.wanted o (yielded ops a.tmps) = true := by simp [Region.wanted, hgd]
  rw [if_pos hw]
  have hmul : xs.length + us.length ≤ (xs.length + us.length) * bytes := Nat.le_mul_of_pos_right _ hb1
  refine wp_append_own w s x t ho base e i z 1 bytes ht hi hz hsize hby hzs (by omega) v xs.length xs hs hown ⟨g, 0, none⟩ us.length us.length us hx (by omega) ?_ hu ?_ hlen hbase ?_
  · intro j u' hj
    have hadd : (⟨g, 0, none⟩ : Addr).add j = ⟨g, j, none⟩ := by unfold Addr.add; split <;> simp_all
    rw [hadd, cell_of_row w g j us.toArray e (0, 0) hnew]
    simpa using hj
  · unfold maxLen; omega
  · intro v' w' ho' hg _
    refine h v' w' (by simpa using ho') (fun W hW => hW.grown hg hbase (fun j hj => (hown.lt j hj).1)) ?_
    have := hg.size; omega
end Go.Proofs.Ytbmghddmilgngaa
namespace Go.Proofs.Ytbmghddmilgngaa
open Go.RowKit

/-- The value reads as this list of ints, from a block below B. -/
def RowB (B : Nat) (w : World) (v : Value) (l : List Int) : Prop :=
  (l = [] ∧ ∃ a cap, v = .slice a 0 cap) ∨ ∃ b off cap, v = .slice (some ⟨b, off, none⟩) l.length cap ∧ b < B ∧ ∀ j (h : j < l.length), w.cell? ⟨b, off + j, none⟩ = some (.int .i64 l[j])
theorem RowB.below {B B' : Nat} {w w' : World} {v : Value} {l : List Int} (h : RowB B w v l) (hb : Below B' w w') (hB : B ≤ B') : RowB B w' v l := by
  rcases h with h | ⟨b, off, cap, h1, h2, h3⟩
  · exact Or.inl h
  · exact Or.inr ⟨b, off, cap, h1, h2, fun j hj => (hb.cell (p := ⟨b, off + j, none⟩) (by show b < B'; omega)).trans (h3 j hj)⟩
theorem RowB.mono {B B' : Nat} {w : World} {v : Value} {l : List Int} (h : RowB B w v l) (hB : B ≤ B') : RowB B' w v l := by
  rcases h with h | ⟨b, off, cap, h1, h2, h3⟩
  · exact Or.inl h
  · exact Or.inr ⟨b, off, cap, h1, by omega, h3⟩
theorem RowB.slice {B : Nat} {w : World} {v : Value} {l : List Int} (h : RowB B w v l) : ∃ a cap, v = .slice a l.length cap := by
  rcases h with ⟨rfl, a, cap, rfl⟩ | ⟨b, off, cap, rfl, _, _⟩
  · exact ⟨a, cap, rfl⟩
  · exact ⟨_, cap, rfl⟩
/-- One int of the list. -/
theorem RowB.get {B : Nat} {w : World} {a : Option Addr} {n cap : Nat} {l : List Int} (h : RowB B w (.slice a n cap) l) {j : Nat} (hj : j < n) :
    ∃ b off, ∃ hl : j < l.length, a = some ⟨b, off, none⟩ ∧ b < B ∧ w.cell? ⟨b, off + j, none⟩ = some (.int .i64 l[j]) := by
  rcases h with ⟨rfl, a', cap', h⟩ | ⟨b, off, cap', h, h2, h3⟩
  · injection h with h1 h2 h3; omega
  · injection h with h4 h5 h6
    subst h4
    exact ⟨b, off, by omega, rfl, h2, h3 j (by omega)⟩

/-- The value reads as this list of lists, every block below B. -/
def MatB (B : Nat) (w : World) (v : Value) (m : List (List Int)) : Prop :=
  (m = [] ∧ ∃ a cap, v = .slice a 0 cap) ∨ ∃ b off cap, v = .slice (some ⟨b, off, none⟩) m.length cap ∧ b < B ∧ ∀ j (h : j < m.length), ∃ rv, w.cell? ⟨b, off + j, none⟩ = some rv ∧ RowB B w rv m[j]
theorem MatB.below {B B' : Nat} {w w' : World} {v : Value} {m : List (List Int)} (h : MatB B w v m) (hb : Below B' w w') (hB : B ≤ B') : MatB B w' v m := by
  rcases h with h | ⟨b, off, cap, h1, h2, h3⟩
  · exact Or.inl h
  · refine Or.inr ⟨b, off, cap, h1, h2, fun j hj => ?_⟩
    obtain ⟨rv, h4, h5⟩ := h3 j hj
    exact ⟨rv, (hb.cell (p := ⟨b, off + j, none⟩) (by show b < B'; omega)).trans h4, h5.below hb hB⟩
theorem MatB.mono {B B' : Nat} {w : World} {v : Value} {m : List (List Int)} (h : MatB B w v m) (hB : B ≤ B') : MatB B' w v m := by
  rcases h with h | ⟨b, off, cap, h1, h2, h3⟩
  · exact Or.inl h
  · refine Or.inr ⟨b, off, cap, h1, by omega, fun j hj => ?_⟩
    obtain ⟨rv, h4, h5⟩ := h3 j hj
    exact ⟨rv, h4, h5.mono hB⟩
theorem MatB.slice {B : Nat} {w : World} {v : Value} {m : List (List Int)} (h : MatB B w v m) : ∃ a cap, v = .slice a m.length cap := by
  rcases h with ⟨rfl, a, cap, rfl⟩ | ⟨b, off, cap, rfl, _, _⟩
  · exact ⟨a, cap, rfl⟩
  · exact ⟨_, cap, rfl⟩
/-- One row of the matrix, its header and its address. -/
theorem MatB.get {B : Nat} {w : World} {a : Option Addr} {n cap : Nat} {m : List (List Int)} (h : MatB B w (.slice a n cap) m) {j : Nat} (hj : j < n) :
    ∃ b off, ∃ hl : j < m.length, a = some ⟨b, off, none⟩ ∧ b < B ∧ ∃ ra rcap, w.cell? ⟨b, off + j, none⟩ = some (.slice ra m[j].length rcap) ∧ RowB B w (.slice ra m[j].length rcap) m[j] := by
  rcases h with ⟨rfl, a', cap', h⟩ | ⟨b, off, cap', h, h2, h3⟩
  · injection h with h1 h2 h3; omega
  · injection h with h4 h5 h6
    subst h4
    have hjl : j < m.length := by omega
    obtain ⟨rv, h7, h8⟩ := h3 j hjl
    obtain ⟨ra, rcap, h9⟩ := h8.slice
    rw [h9] at h7 h8
    exact ⟨b, off, hjl, rfl, h2, ra, rcap, h7, h8⟩
end Go.Proofs.Ytbmghddmilgngaa
