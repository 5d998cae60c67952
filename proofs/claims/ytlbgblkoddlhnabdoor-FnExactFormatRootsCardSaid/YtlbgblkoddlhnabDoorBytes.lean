/-
  Slices of bytes that the call itself made: what they own, and what the conversion to a string gives.
-/
import Derived.Test.YtlbgblkoddlhnabDoorRows
import Derived.Test.YtlbgblkoddlhnabDoorPlain
import Derived.Test.YtlbgblkoddlhnabDoorOwn
import Derived.Handy
import Derived.Lib.Hide
namespace Go.Proofs.YtlbgblkoddlhnabDoor
open Go.RowKit

def byteV (b : UInt8) : Value := .int .u8 (b.toNat : Int)
def bytesV (l : List UInt8) : List Value := l.map byteV
theorem bytesV_length (l : List UInt8) : (bytesV l).length = l.length := by simp [bytesV]
theorem bytesV_append (l r : List UInt8) : bytesV (l ++ r) = bytesV l ++ bytesV r := by simp [bytesV]

theorem Tryd.infoU8 : (Tryd.prog.info? 5).map (fun i => (i.zero, i.size, i.bytes)) = some (some (.int .u8 0), 1, 1) := by kernel_rfl

/-- 'v' is a slice of bytes of the call's own, reading 'l'. -/
def OwnB (w : World) (base : Nat) (v : Value) (l : List UInt8) : Prop := w.ownsRow base 5 1 v l.length (bytesV l)

set_option maxRecDepth 100000 in
theorem convB {w : World} {base : Nat} {v : Value} {l : List UInt8} (h : OwnB w base v l) :
    (convert 37 9 v).run Tryd.prog w = .ok (.string ⟨l.toArray⟩) w := by
  obtain ⟨_, h | h⟩ := h
  · obtain ⟨rfl, hl⟩ := h
    have : l = [] := List.eq_nil_of_length_eq_zero hl
    subst this
    exact run_convert_bytes_nil w 37 5 Tryd.underlying37 Tryd.underlying5 0 0 9 Tryd.underlying9
  · obtain ⟨g, cap, cur, rfl, hg, hb, hn, hc, hs, ht⟩ := h
    have := run_convert_bytes_arg (P := Tryd.prog) w 37 5 Tryd.underlying37 Tryd.underlying5 g 0 l.length cap (l.map fun b => (b.toNat : Int)) (by simp) (fun i hi => by
      have e1 : (bytesV l)[i]? = some (byteV l[i]) := by simp [bytesV, hi]
      rw [← ht, Nat.mul_one, List.getElem?_take_of_lt hi] at e1
      have e2 : w.cell? ⟨g, 0 + i, none⟩ = cur.toList[i]? := by
        simp [World.cell?, hb]
      rw [e2, e1]
      simp [byteV, List.getD, hi]) 9 Tryd.underlying9
    rw [this]
    congr 3
    simp only [strOfNums, List.map_map]
    congr 1
    conv => rhs; rw [← List.map_id l]
    refine congrArg List.toArray (List.map_congr_left ?_)
    intro x _
    simp

theorem byteV_one (b : UInt8) : (byteV b).oneCell' = true := rfl
theorem ownB_lit (w : World) (base : Nat) (hb : base ≤ w.heap.size) (l : List UInt8) (hl : l.length ≤ maxLen) : OwnB (w.alloc (.cells (bytesV l).toArray 5)) base (.slice (some ⟨w.heap.size, 0, none⟩) l.length l.length) l := by
  have := World.ownsRow_lit (base := base) (e := 5) (size := 1) w (bytesV l).toArray l.length hb hl (by simp [bytesV])
  simpa [OwnB] using this
theorem ownB_empty (w : World) (base : Nat) (hb : base ≤ w.heap.size) : OwnB (w.alloc (.cells #[] 5)) base (.slice (some ⟨w.heap.size, 0, none⟩) 0 0) [] := by
  have := ownB_lit w base hb [] (by simp)
  simpa [bytesV] using this
theorem ownB_nil (w : World) (base : Nat) : OwnB w base (.slice none 0 0) [] := World.ownsRow_nil _ _ _ _

/-- 'append(s, b)' on bytes of the call's own. -/
theorem append_byte {ops : Array Oper} {rest : List Oper} {o : Oper} {a : Act} {Q : Exit → Act → World → Prop} {wr : World} {base : Nat} {v : Value} {l : List UInt8} (hown : OwnB wr base v l) (hbase : base ≤ wr.heap.size)
    (b : UInt8) {u : Int} (hu : (b.toNat : Int) = u) {s x : Operand} (hgd : o.guard = none)
    (ho : o.op = .call { callee := .builtin .append, args := #[s, x], argTypes := #[37, 37] }) (hs : a.eval s = v)
    (hx : a.eval x = .slice (some ⟨wr.heap.size, 0, none⟩) 1 1) (hlen : l.length ≤ 70368744177664)
    (h : ∀ v' w', OwnB w' base v' (l ++ [b]) → (∀ W, Below base W wr → Below base W w') → base ≤ w'.heap.size → wpList Tryd.prog ops Q rest (a.put o.dst v') w') :
    wpList Tryd.prog ops Q (o :: rest) a (wr.alloc (.cells #[.int .u8 u] 5)) := by
  obtain ⟨i0, hi, hz0, hz1, hz2⟩ := info_parts Tryd.infoU8
  have hl := bytesV_length l
  subst hu
  refine append_one hgd s x 37 ho base 5 i0 (.int .u8 0) 1 Tryd.underlying37 hi hz0 hz1 hz2 rfl v (bytesV l) (byteV b) rfl wr hs (by rw [hl]; exact hown) hx (by omega) (Nat.le_refl _) hbase ?_
  intro v' w' h1 h2 h3
  refine h v' w' ?_ h2 h3
  unfold OwnB
  rw [bytesV_append, List.length_append]
  have e : (bytesV l ++ [byteV b]).length = l.length + [b].length := by simp [hl]
  rw [e] at h1
  exact h1

/-- 'append(s, b, c)' on bytes of the call's own. -/
theorem append_byte2 {ops : Array Oper} {rest : List Oper} {o : Oper} {a : Act} {Q : Exit → Act → World → Prop} {wr : World} {base : Nat} {v : Value} {l : List UInt8} (hown : OwnB wr base v l) (hbase : base ≤ wr.heap.size)
    (b c : UInt8) {u u' : Int} (hu : (b.toNat : Int) = u) (hu' : (c.toNat : Int) = u') {s x : Operand} (hgd : o.guard = none)
    (ho : o.op = .call { callee := .builtin .append, args := #[s, x], argTypes := #[37, 37] }) (hs : a.eval s = v)
    (hx : a.eval x = .slice (some ⟨wr.heap.size, 0, none⟩) 2 2) (hlen : l.length ≤ 70368744177664)
    (h : ∀ v' w', OwnB w' base v' (l ++ [b, c]) → (∀ W, Below base W wr → Below base W w') → base ≤ w'.heap.size → wpList Tryd.prog ops Q rest (a.put o.dst v') w') :
    wpList Tryd.prog ops Q (o :: rest) a (wr.alloc (.cells #[.int .u8 u, .int .u8 u'] 5)) := by
  obtain ⟨i0, hi, hz0, hz1, hz2⟩ := info_parts Tryd.infoU8
  have hl := bytesV_length l
  subst hu
  subst hu'
  refine append_many hgd s x 37 ho base 5 i0 (.int .u8 0) 1 Tryd.underlying37 hi hz0 hz1 hz2 rfl v (bytesV l) [byteV b, byteV c] (fun u h => by simp at h; rcases h with rfl | rfl <;> rfl) wr hs (by rw [hl]; exact hown) hx (by simp only [List.length_cons, List.length_nil]; omega) (Nat.le_refl _) hbase ?_
  intro v' w' h1 h2 h3
  refine h v' w' ?_ h2 h3
  unfold OwnB
  rw [bytesV_append, List.length_append]
  have e : (bytesV l ++ [byteV b, byteV c]).length = l.length + [b, c].length := by simp [hl]
  rw [e] at h1
  exact h1

theorem OwnB.alloc {w : World} {base : Nat} {v : Value} {l : List UInt8} (h : OwnB w base v l) (o : Obj) : OwnB (w.alloc o) base v l := World.ownsRow.alloc h o
theorem OwnB.drew {w : World} {base : Nat} {v : Value} {l : List UInt8} (h : OwnB w base v l) : OwnB w.drew base v l := World.ownsRow.drew h

/-- 'append(s, b, c)' on bytes of the call's own, as one step of a region that draws its order. -/
theorem step_byte2 {ops : Array Oper} {o : Oper} {a : Act} {K : Act → World → Prop} {Q : Exit → Act → World → Prop} {E : Prop} {w : World} {base : Nat} {v : Value} {l : List UInt8} (hown : OwnB w base v l) (hbase : base ≤ w.heap.size)
    (b c : UInt8) {u u' : Int} (hu : (b.toNat : Int) = u) (hu' : (c.toNat : Int) = u') {g : Nat} {s x : Operand} (hgd : o.guard = none)
    (ho : o.op = .call { callee := .builtin .append, args := #[s, x], argTypes := #[37, 37] }) (hs : a.eval s = v)
    (hx : a.eval x = .slice (some ⟨g, 0, none⟩) 2 2) (hnew : w.heap[g]? = some (.cells #[.int .u8 u, .int .u8 u'] 5 (0, 0))) (hlen : l.length ≤ 70368744177664)
    (h : ∀ v' w', OwnB w' base v' (l ++ [b, c]) → (∀ W, Below base W w → Below base W w') → base ≤ w'.heap.size → K (a.put o.dst v') w') :
    if Region.wanted o (yielded ops a.tmps) = true then Oper.wp Tryd.prog o a w K Q else E := by
  obtain ⟨i0, hi, hz0, hz1, hz2⟩ := info_parts Tryd.infoU8
  have hl := bytesV_length l
  subst hu
  subst hu'
  refine step_many hgd s x 37 ho base 5 i0 (.int .u8 0) 1 Tryd.underlying37 hi hz0 hz1 hz2 rfl v (bytesV l) [byteV b, byteV c] g (fun u h => by simp at h; rcases h with rfl | rfl <;> rfl) hs (by rw [hl]; exact hown) hx hnew (by simp only [List.length_cons, List.length_nil]; omega) (Nat.le_refl _) hbase ?_
  intro v' w' h1 h2 h3
  refine h v' w' ?_ h2 h3
  unfold OwnB
  rw [bytesV_append, List.length_append]
  have e : (bytesV l ++ [byteV b, byteV c]).length = l.length + [b, c].length := by simp [hl]
  rw [e] at h1
  exact h1

theorem madeU8 (n : Nat) : (madeCells (Value.int .u8 0).cells n).toList = bytesV (List.replicate n 0) := by
  apply List.ext_getElem
  · simp [madeCells, bytesV]
  · intro i h1 h2
    simp [madeCells, bytesV, byteV, Value.cells, Nat.mod_one]

/-- 'make([]byte, 0, n)'. -/
theorem make_bytes {ops : Array Oper} {rest : List Oper} {o : Oper} {a : Act} {Q : Exit → Act → World → Prop} (w : World) (base : Nat) (hbase : base ≤ w.heap.size) (n : Nat) {C : Int} (hC : C = (n : Int)) (hn : n ≤ 140737488355328)
    (hgd : o.guard = none) {l c : Operand} (ho : o.op = .makeSlice 37 l c) (hl : a.eval l = .int .i64 0) (hc : a.eval c = .int .i64 C)
    (h : ∀ w', OwnB w' base (.slice (some ⟨w.heap.size, 0, none⟩) 0 n) [] → (∀ W, Below base W w → Below base W w') → base ≤ w'.heap.size → wpList Tryd.prog ops Q rest (a.put o.dst (.slice (some ⟨w.heap.size, 0, none⟩) 0 n)) w') :
    wpList Tryd.prog ops Q (o :: rest) a w := by
  obtain ⟨i0, hi, hz0, hz1, hz2⟩ := info_parts Tryd.infoU8
  refine wpList_make_own w hgd l c 37 ho base 5 i0 (.int .u8 0) 1 Tryd.underlying37 hi hz0 hz1 .i64 .i64 C n hl hc hC (by rw [hz2]; omega) (by unfold maxLen; omega) hbase ?_
  intro w' h1 hg
  refine h w' h1 (fun W hW => hW.grown hg hbase (fun j hj => by cases hj)) ?_
  have := hg.size; omega

/-- 'make([]byte, n)'. -/
theorem make_bytes_full {ops : Array Oper} {rest : List Oper} {o : Oper} {a : Act} {Q : Exit → Act → World → Prop} (w : World) (base : Nat) (hbase : base ≤ w.heap.size) (n : Nat) {C : Int} (hC : C = (n : Int)) (hn : n ≤ 140737488355328)
    (hgd : o.guard = none) {l c : Operand} (ho : o.op = .makeSlice 37 l c) (hl : a.eval l = .int .i64 C) (hc : a.eval c = .int .i64 C)
    (h : ∀ w', OwnB w' base (.slice (some ⟨w.heap.size, 0, none⟩) n n) (List.replicate n 0) → (∀ W, Below base W w → Below base W w') → w.heap.size < w'.heap.size → wpList Tryd.prog ops Q rest (a.put o.dst (.slice (some ⟨w.heap.size, 0, none⟩) n n)) w') :
    wpList Tryd.prog ops Q (o :: rest) a w := by
  obtain ⟨i0, hi, hz0, hz1, hz2⟩ := info_parts Tryd.infoU8
  refine wpList_make_full w hgd l c 37 ho base 5 i0 (.int .u8 0) 1 Tryd.underlying37 hi hz0 hz1 .i64 .i64 C C n hl hc hC hC (by rw [hz2]; omega) (by unfold maxLen; omega) hbase ?_
  intro w' h1 hg
  refine h w' ?_ (fun W hW => hW.grown hg hbase (fun j hj => by cases hj)) (h1.lt w.heap.size rfl).2
  unfold OwnB
  rw [Nat.mul_one, madeU8] at h1
  simpa using h1

/-- A string of one byte, out of a slice that was just made. -/
theorem conv_byte (w : World) (b : UInt8) {u : Int} (hu : (b.toNat : Int) = u) : (convert 37 9 (.slice (some ⟨w.heap.size, 0, none⟩) 1 1)).run Tryd.prog (w.alloc (.cells #[.int .u8 u] 5)) = .ok (.string ⟨#[b]⟩) (w.alloc (.cells #[.int .u8 u] 5)) := by
  subst hu
  have h := convB (ownB_lit w w.heap.size (Nat.le_refl _) [b] (by simp [maxLen]))
  simp only [bytesV, List.map_cons, List.map_nil, byteV] at h
  exact h
theorem str_app (a b : ByteArray) : (a ++ b).data.toList = a.data.toList ++ b.data.toList := by
  cases a; cases b
  rw [ByteArray.mk_append_mk]
theorem str_app_size (b : UInt8) (s : ByteArray) : ((⟨#[b]⟩ : ByteArray) ++ s).size = s.size + 1 := by
  rw [ByteArray.size_append]
  have : (⟨#[b]⟩ : ByteArray).size = 1 := rfl
  omega
theorem str_of {s : ByteArray} {l : List UInt8} (h : s.data.toList = l) : s = ⟨l.toArray⟩ := by
  subst h; rfl
theorem ret_string {a b : ByteArray} (h : a = b) : Ending.returned (.string a) = .returned (.string b) := by rw [h]
end Go.Proofs.YtlbgblkoddlhnabDoor
