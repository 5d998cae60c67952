/-
  Slices of bytes that the call itself made: what they own, and what the conversion to a string gives.
  The draws of the model: a cursor over bytes that came in. What each call returns lies in its range; only the cursor's own block is written.
-/
import Derived.Test.YtbmghddmilgngaaRows
import Derived.Handy
import Derived.Lib.Hide
import Derived.Test.YtbmghddmilgngaaEz32
import Derived.Test.YtbmghddmilgngaaEz01
import Derived.BigQuiet
import Derived.Deep.QuietTactic
import Derived.Maps.AppendAt
namespace Go.Proofs.Ytbmghddmilgngaa
open Go.RowKit

def byteV (b : UInt8) : Value := .int .u8 (b.toNat : Int)
def bytesV (l : List UInt8) : List Value := l.map byteV
theorem bytesV_length (l : List UInt8) : (bytesV l).length = l.length := by simp [bytesV]
theorem bytesV_append (l r : List UInt8) : bytesV (l ++ r) = bytesV l ++ bytesV r := by simp [bytesV]

theorem Try.infoU8 : (Try.prog.info? 5).map (fun i => (i.zero, i.size, i.bytes)) = some (some (.int .u8 0), 1, 1) := by kernel_rfl

/-- 'v' is a slice of bytes of the call's own, reading 'l'. -/
def OwnB (w : World) (base : Nat) (v : Value) (l : List UInt8) : Prop := w.ownsRow base 5 1 v l.length (bytesV l)

set_option maxRecDepth 100000 in
theorem convB {w : World} {base : Nat} {v : Value} {l : List UInt8} (h : OwnB w base v l) :
    (convert 22 9 v).run Try.prog w = .ok (.string ⟨l.toArray⟩) w := by
  obtain ⟨_, h | h⟩ := h
  · obtain ⟨rfl, hl⟩ := h
    have : l = [] := List.eq_nil_of_length_eq_zero hl
    subst this
    exact run_convert_bytes_nil w 22 5 Try.underlying22 Try.underlying5 0 0 9 Try.underlying9
  · obtain ⟨g, cap, cur, rfl, hg, hb, hn, hc, hs, ht⟩ := h
    have := run_convert_bytes_arg (P := Try.prog) w 22 5 Try.underlying22 Try.underlying5 g 0 l.length cap (l.map fun b => (b.toNat : Int)) (by simp) (fun i hi => by
      have e1 : (bytesV l)[i]? = some (byteV l[i]) := by simp [bytesV, hi]
      rw [← ht, Nat.mul_one, List.getElem?_take_of_lt hi] at e1
      have e2 : w.cell? ⟨g, 0 + i, none⟩ = cur.toList[i]? := by
        simp [World.cell?, hb]
      rw [e2, e1]
      simp [byteV, List.getD, hi]) 9 Try.underlying9
    rw [this]
    congr 3
    simp only [strOfNums, List.map_map]
    congr 1
    conv => rhs; rw [← List.map_id l]
    refine congrArg List.toArray (List.map_congr_left ?_)
    intro x _
    simp

theorem byteV_one (b : UInt8) : (byteV b).oneCell' = true := rfl
theorem ownB_lit (w : World) (base : Nat) (hb : base ≤ w.heap.size) (l : List UInt8) (hl : l.length ≤ maxLen) : OwnB (w.alloc (.cells (bytesV l).toArray 5)) base (.slice (some ⟨w.heap.size, 0, none⟩) l.length l.length) l := by
  have := World.ownsRow_lit (base := base) (e := 5) (size := 1) w (bytesV l).toArray l.length hb hl (by simp [bytesV])
  simpa [OwnB] using this
theorem ownB_empty (w : World) (base : Nat) (hb : base ≤ w.heap.size) : OwnB (w.alloc (.cells #[] 5)) base (.slice (some ⟨w.heap.size, 0, none⟩) 0 0) [] := by
  have := ownB_lit w base hb [] (by simp)
  simpa [bytesV] using this
theorem ownB_nil (w : World) (base : Nat) : OwnB w base (.slice none 0 0) [] := World.ownsRow_nil _ _ _ _

/-- 'append(s, b)' on bytes of the call's own. -/
theorem append_byte {ops : Array Oper} {rest : List Oper} {o : Oper} {a : Act} {Q : Exit → Act → World → Prop} {wr : World} {base : Nat} {v : Value} {l : List UInt8} (hown : OwnB wr base v l) (hbase : base ≤ wr.heap.size)
    (b : UInt8) {u : Int} (hu : (b.toNat : Int) = u) {s x : Operand} (hgd : o.guard = none)
    (ho : o.op = .call { callee := .builtin .append, args := #[s, x], argTypes := #[22, 22] }) (hs : a.eval s = v)
    (hx : a.eval x = .slice (some ⟨wr.heap.size, 0, none⟩) 1 1) (hlen : l.length ≤ 70368744177664)
    (h : ∀ v' w', OwnB w' base v' (l ++ [b]) → (∀ W, Below base W wr → Below base W w') → base ≤ w'.heap.size → wpList Try.prog ops Q rest (a.put o.dst v') w') :
    wpList Try.prog ops Q (o :: rest) a (wr.alloc (.cells #[.int .u8 u] 5)) := by
  obtain ⟨i0, hi, hz0, hz1, hz2⟩ := info_parts Try.infoU8
  have hl := bytesV_length l
  subst hu
  refine append_one hgd s x 22 ho base 5 i0 (.int .u8 0) 1 Try.underlying22 hi hz0 hz1 hz2 rfl v (bytesV l) (byteV b) rfl wr hs (by rw [hl]; exact hown) hx (by omega) (Nat.le_refl _) hbase ?_
  intro v' w' h1 h2 h3
  refine h v' w' ?_ h2 h3
  unfold OwnB
  rw [bytesV_append, List.length_append]
  have e : (bytesV l ++ [byteV b]).length = l.length + [b].length := by simp [hl]
  rw [e] at h1
  exact h1

/-- 'append(s, b, c)' on bytes of the call's own. -/
theorem append_byte2 {ops : Array Oper} {rest : List Oper} {o : Oper} {a : Act} {Q : Exit → Act → World → Prop} {wr : World} {base : Nat} {v : Value} {l : List UInt8} (hown : OwnB wr base v l) (hbase : base ≤ wr.heap.size)
    (b c : UInt8) {u u' : Int} (hu : (b.toNat : Int) = u) (hu' : (c.toNat : Int) = u') {s x : Operand} (hgd : o.guard = none)
    (ho : o.op = .call { callee := .builtin .append, args := #[s, x], argTypes := #[22, 22] }) (hs : a.eval s = v)
    (hx : a.eval x = .slice (some ⟨wr.heap.size, 0, none⟩) 2 2) (hlen : l.length ≤ 70368744177664)
    (h : ∀ v' w', OwnB w' base v' (l ++ [b, c]) → (∀ W, Below base W wr → Below base W w') → base ≤ w'.heap.size → wpList Try.prog ops Q rest (a.put o.dst v') w') :
    wpList Try.prog ops Q (o :: rest) a (wr.alloc (.cells #[.int .u8 u, .int .u8 u'] 5)) := by
  obtain ⟨i0, hi, hz0, hz1, hz2⟩ := info_parts Try.infoU8
  have hl := bytesV_length l
  subst hu
  subst hu'
  refine append_many hgd s x 22 ho base 5 i0 (.int .u8 0) 1 Try.underlying22 hi hz0 hz1 hz2 rfl v (bytesV l) [byteV b, byteV c] (fun u h => by simp at h; rcases h with rfl | rfl <;> rfl) wr hs (by rw [hl]; exact hown) hx (by simp only [List.length_cons, List.length_nil]; omega) (Nat.le_refl _) hbase ?_
  intro v' w' h1 h2 h3
  refine h v' w' ?_ h2 h3
  unfold OwnB
  rw [bytesV_append, List.length_append]
  have e : (bytesV l ++ [byteV b, byteV c]).length = l.length + [b, c].length := by simp [hl]
  rw [e] at h1
  exact h1

theorem OwnB.alloc {w : World} {base : Nat} {v : Value} {l : List UInt8} (h : OwnB w base v l) (o : Obj) : OwnB (w.alloc o) base v l := World.ownsRow.alloc h o
theorem OwnB.drew {w : World} {base : Nat} {v : Value} {l : List UInt8} (h : OwnB w base v l) : OwnB w.drew base v l := World.ownsRow.drew h

/-- 'append(s, b, c)' on bytes of the call's own, as one step of a region that draws its order. -/
theorem step_byte2 {ops : Array Oper} {o : Oper} {a : Act} {K : Act → World → Prop} {Q : Exit → Act → World → Prop} {E : Prop} {w : World} {base : Nat} {v : Value} {l : List UInt8} (hown : OwnB w base v l) (hbase : base ≤ w.heap.size)
    (b c : UInt8) {u u' : Int} (hu : (b.toNat : Int) = u) (hu' : (c.toNat : Int) = u') {g : Nat} {s x : Operand} (hgd : o.guard = none)
    (ho : o.op = .call { callee := .builtin .append, args := #[s, x], argTypes := #[22, 22] }) (hs : a.eval s = v)
    (hx : a.eval x = .slice (some ⟨g, 0, none⟩) 2 2) (hnew : w.heap[g]? = some (.cells #[.int .u8 u, .int .u8 u'] 5 (0, 0))) (hlen : l.length ≤ 70368744177664)
    (h : ∀ v' w', OwnB w' base v' (l ++ [b, c]) → (∀ W, Below base W w → Below base W w') → base ≤ w'.heap.size → K (a.put o.dst v') w') :
    if Region.wanted o (yielded ops a.tmps) = true then Oper.wp Try.prog o a w K Q else E := by
  obtain ⟨i0, hi, hz0, hz1, hz2⟩ := info_parts Try.infoU8
  have hl := bytesV_length l
  subst hu
  subst hu'
  refine step_many hgd s x 22 ho base 5 i0 (.int .u8 0) 1 Try.underlying22 hi hz0 hz1 hz2 rfl v (bytesV l) [byteV b, byteV c] g (fun u h => by simp at h; rcases h with rfl | rfl <;> rfl) hs (by rw [hl]; exact hown) hx hnew (by simp only [List.length_cons, List.length_nil]; omega) (Nat.le_refl _) hbase ?_
  intro v' w' h1 h2 h3
  refine h v' w' ?_ h2 h3
  unfold OwnB
  rw [bytesV_append, List.length_append]
  have e : (bytesV l ++ [byteV b, byteV c]).length = l.length + [b, c].length := by simp [hl]
  rw [e] at h1
  exact h1

theorem madeU8 (n : Nat) : (madeCells (Value.int .u8 0).cells n).toList = bytesV (List.replicate n 0) := by
  apply List.ext_getElem
  · simp [madeCells, bytesV]
  · intro i h1 h2
    simp [madeCells, bytesV, byteV, Value.cells, Nat.mod_one]

/-- 'make([]byte, 0, n)'. -/
theorem make_bytes {ops : Array Oper} {rest : List Oper} {o : Oper} {a : Act} {Q : Exit → Act → World → Prop} (w : World) (base : Nat) (hbase : base ≤ w.heap.size) (n : Nat) {C : Int} (hC : C = (n : Int)) (hn : n ≤ 140737488355328)
    (hgd : o.guard = none) {l c : Operand} (ho : o.op = .makeSlice 22 l c) (hl : a.eval l = .int .i64 0) (hc : a.eval c = .int .i64 C)
    (h : ∀ w', OwnB w' base (.slice (some ⟨w.heap.size, 0, none⟩) 0 n) [] → (∀ W, Below base W w → Below base W w') → base ≤ w'.heap.size → wpList Try.prog ops Q rest (a.put o.dst (.slice (some ⟨w.heap.size, 0, none⟩) 0 n)) w') :
    wpList Try.prog ops Q (o :: rest) a w := by
  obtain ⟨i0, hi, hz0, hz1, hz2⟩ := info_parts Try.infoU8
  refine wpList_make_own w hgd l c 22 ho base 5 i0 (.int .u8 0) 1 Try.underlying22 hi hz0 hz1 .i64 .i64 C n hl hc hC (by rw [hz2]; omega) (by unfold maxLen; omega) hbase ?_
  intro w' h1 hg
  refine h w' h1 (fun W hW => hW.grown hg hbase (fun j hj => by cases hj)) ?_
  have := hg.size; omega

/-- 'make([]byte, n)'. -/
theorem make_bytes_full {ops : Array Oper} {rest : List Oper} {o : Oper} {a : Act} {Q : Exit → Act → World → Prop} (w : World) (base : Nat) (hbase : base ≤ w.heap.size) (n : Nat) {C : Int} (hC : C = (n : Int)) (hn : n ≤ 140737488355328)
    (hgd : o.guard = none) {l c : Operand} (ho : o.op = .makeSlice 22 l c) (hl : a.eval l = .int .i64 C) (hc : a.eval c = .int .i64 C)
    (h : ∀ w', OwnB w' base (.slice (some ⟨w.heap.size, 0, none⟩) n n) (List.replicate n 0) → (∀ W, Below base W w → Below base W w') → w.heap.size < w'.heap.size → wpList Try.prog ops Q rest (a.put o.dst (.slice (some ⟨w.heap.size, 0, none⟩) n n)) w') :
    wpList Try.prog ops Q (o :: rest) a w := by
  obtain ⟨i0, hi, hz0, hz1, hz2⟩ := info_parts Try.infoU8
  refine wpList_make_full w hgd l c 22 ho base 5 i0 (.int .u8 0) 1 Try.underlying22 hi hz0 hz1 .i64 .i64 C C n hl hc hC hC (by rw [hz2]; omega) (by unfold maxLen; omega) hbase ?_
  intro w' h1 hg
  refine h w' ?_ (fun W hW => hW.grown hg hbase (fun j hj => by cases hj)) (h1.lt w.heap.size rfl).2
  unfold OwnB
  rw [Nat.mul_one, madeU8] at h1
  simpa using h1

/-- A string of one byte, out of a slice that was just made. -/
theorem conv_byte (w : World) (b : UInt8) {u : Int} (hu : (b.toNat : Int) = u) : (convert 22 9 (.slice (some ⟨w.heap.size, 0, none⟩) 1 1)).run Try.prog (w.alloc (.cells #[.int .u8 u] 5)) = .ok (.string ⟨#[b]⟩) (w.alloc (.cells #[.int .u8 u] 5)) := by
  subst hu
  have h := convB (ownB_lit w w.heap.size (Nat.le_refl _) [b] (by simp [maxLen]))
  simp only [bytesV, List.map_cons, List.map_nil, byteV] at h
  exact h
theorem str_app (a b : ByteArray) : (a ++ b).data.toList = a.data.toList ++ b.data.toList := by
  cases a; cases b
  rw [ByteArray.mk_append_mk]
theorem str_app_size (b : UInt8) (s : ByteArray) : ((⟨#[b]⟩ : ByteArray) ++ s).size = s.size + 1 := by
  rw [ByteArray.size_append]
  have : (⟨#[b]⟩ : ByteArray).size = 1 := rfl
  omega
theorem str_of {s : ByteArray} {l : List UInt8} (h : s.data.toList = l) : s = ⟨l.toArray⟩ := by
  subst h; rfl
theorem ret_string {a b : ByteArray} (h : a = b) : Ending.returned (.string a) = .returned (.string b) := by rw [h]
end Go.Proofs.Ytbmghddmilgngaa
namespace Go.Proofs.Ytbmghddmilgngaa
open Go.RowKit

/-- Bytes that came in, below block B. -/
def CodeB (B : Nat) (w : World) (cv : Value) (len : Nat) : Prop :=
  ((∃ a cap, cv = .slice a 0 cap) ∧ len = 0) ∨ ∃ (b off cap : Nat), cv = .slice (some ⟨b, off, none⟩) len cap ∧ b < B ∧ ∀ j, j < len → ∃ u : UInt8, w.cell? ⟨b, off + j, none⟩ = some (.int .u8 (u.toNat : Int))
theorem CodeB.below {B : Nat} {w w' : World} {cv : Value} {len : Nat} (h : CodeB B w cv len) (hb : Below B w w') : CodeB B w' cv len := by
  rcases h with h | ⟨b, off, cap, h1, h2, h3⟩
  · exact Or.inl h
  · refine Or.inr ⟨b, off, cap, h1, h2, fun j hj => ?_⟩
    obtain ⟨u, hu⟩ := h3 j hj
    exact ⟨u, (hb.cell (p := ⟨b, off + j, none⟩) h2).trans hu⟩

/-- A cursor of the call's own at block C. -/
def Cur (B C : Nat) (w : World) (cv : Value) (len : Nat) : Prop :=
  B ≤ C ∧ ∃ (i : Nat) (h : Int), i ≤ len ∧ w.heap[C]? = some (.cells #[cv, .int .i64 i, .int .i64 h] 80 (0, 0))
theorem Cur.grown {B C : Nat} {w w' : World} {cv : Value} {len : Nat} {row : Option Nat} (h : Cur B C w cv len) (hg : w.grownBy w' row) (hne : some C ≠ row) : Cur B C w' cv len := by
  obtain ⟨hB, i, x, hi, hc⟩ := h
  have hlt : C < w.heap.size := (Array.getElem?_eq_some_iff.1 hc).1
  exact ⟨hB, i, x, hi, (hg.block C hlt hne).trans hc⟩

theorem set_block {w : World} {C : Nat} {cs : Array Value} {t : TypeId} (hC : w.heap[C]? = some (.cells cs t (0, 0))) (j : Nat) (v : Value) : (w.setCell ⟨C, j, none⟩ v).heap[C]? = some (.cells (cs.setIfInBounds j v) t (0, 0)) := by
  unfold World.setCell
  simp only [Array.getElem?_modify, if_pos, hC, Option.map_some, Option.isSome_none, Bool.false_eq_true, if_false]
theorem set_grown {a w : World} {C : Nat} (h : a.grownBy w (some C)) (j : Nat) (v : Value) : a.grownBy (w.setCell ⟨C, j, none⟩ v) (some C) := by
  refine ⟨h.os, h.tape, h.output, ?_, ?_⟩
  · rw [World.size_setCell]; exact h.size
  · intro k hk hne
    have : k ≠ C := fun e => hne (by rw [e])
    rw [← h.block k hk hne]
    unfold World.setCell
    simp [Array.getElem?_modify, this.symm]
theorem drew_grown {a w : World} {row : Option Nat} (h : a.grownBy w row) (n : Nat) : a.grownBy (w.drewN n) row := ⟨h.os, h.tape, h.output, h.size, h.block⟩
theorem and255 (x : Int) : ∃ n : Nat, n ≤ 255 ∧ bits .and .i64 x 255 = (n : Int) := by
  refine ⟨(BitVec.ofInt 64 x &&& BitVec.ofInt 64 255).toNat, ?_, ?_⟩
  · rw [BitVec.toNat_and]
    have : (BitVec.ofInt 64 255).toNat = 255 := by decide
    rw [this]
    exact Nat.and_le_right
  · show IntKind.i64.wrap ((BitVec.ofInt 64 x &&& BitVec.ofInt 64 255).toNat : Int) = _
    have h : (BitVec.ofInt 64 x &&& BitVec.ofInt 64 255).toNat ≤ 255 := by
      rw [BitVec.toNat_and]
      have : (BitVec.ofInt 64 255).toNat = 255 := by decide
      rw [this]
      exact Nat.and_le_right
    exact IntWalk.i64_in _ ⟨by omega, by omega⟩

def nextH (h : Int) : Int := wrap64 (wrap64 (h * 6364136223846793005) + 1442695040888963407)

set_option maxHeartbeats 1000000 in
set_option maxRecDepth 100000 in
theorem byte_end (B C : Nat) (w : World) (a : Option Addr) (cap len i : Nat) (h : Int) (hi : ¬ i < len) (_hl : len ≤ 1048576) (hi2 : i ≤ len)
    (hB : B ≤ C) (hC : w.heap[C]? = some (.cells #[.slice a len cap, .int .i64 i, .int .i64 h] 80 (0, 0))) :
    Calls Try.prog 79 #[.pointer (some ⟨C, 0, none⟩)] w fun e w' => (∃ n : Nat, n ≤ 255 ∧ e = .returned (.int .i64 n)) ∧ Cur B C w' (.slice a len cap) len ∧ w.grownBy w' (some C) := by
  have c2 : w.cell? ⟨C, 2, none⟩ = some (.int .i64 h) := cell_of_row w C 2 _ _ _ hC
  have f2 : w.frozen? ⟨C, 2, none⟩ = false := frozen_of_row w C 2 _ _ hC
  have s0 : ∀ v, (w.setCell ⟨C, 2, none⟩ v).cell? ⟨C, 0, none⟩ = some (.slice a len cap) := fun v => cell_of_row _ C 0 _ _ _ (set_block hC 2 v)
  have s1 : ∀ v, (w.setCell ⟨C, 2, none⟩ v).cell? ⟨C, 1, none⟩ = some (.int .i64 i) := fun v => cell_of_row _ C 1 _ _ _ (set_block hC 2 v)
  have s2 : ∀ v, (w.setCell ⟨C, 2, none⟩ v).cell? ⟨C, 2, none⟩ = some v := fun v => cell_of_row _ C 2 _ _ _ (set_block hC 2 v)
  have HC := Lib.hid hC; clear hC
  go_enter Try.func79, Try.ntmps79
  go_wp2_with fail
  go_quiet (fail)
  go_wp2_with fail
  obtain ⟨n, hn, hne⟩ := and255 (bits BinOp.xor IntKind.i64 (wrap64 (wrap64 (h * 6364136223846793005) + 1442695040888963407) / 8589934592) (wrap64 (wrap64 (h * 6364136223846793005) + 1442695040888963407) / 35184372088832))
  rw [hne]
  clear hne
  go_quiet (fail)
  go_wp2_with fail
  go_ret
  refine ⟨⟨n, hn, rfl⟩, ⟨hB, i, nextH h, hi2, ?_⟩, ?_⟩
  · exact set_block HC.out 2 (.int .i64 (nextH h))
  · exact drew_grown (drew_grown (set_grown (World.grownBy.refl w _) 2 _) _) _

set_option maxHeartbeats 1000000 in
set_option maxRecDepth 100000 in
theorem byte_more (B C : Nat) (w : World) (b off cap len i : Nat) (h : Int) (u : UInt8) (hi : i < len) (hl : len ≤ 1048576) (hbB : b < B)
    (hB : B ≤ C) (hC : w.heap[C]? = some (.cells #[.slice (some ⟨b, off, none⟩) len cap, .int .i64 i, .int .i64 h] 80 (0, 0)))
    (hu : w.cell? ⟨b, off + i, none⟩ = some (.int .u8 (u.toNat : Int))) :
    Calls Try.prog 79 #[.pointer (some ⟨C, 0, none⟩)] w fun e w' => (∃ n : Nat, n ≤ 255 ∧ e = .returned (.int .i64 n)) ∧ Cur B C w' (.slice (some ⟨b, off, none⟩) len cap) len ∧ w.grownBy w' (some C) := by
  have hne : C ≠ b := by omega
  have c2 : w.cell? ⟨C, 2, none⟩ = some (.int .i64 h) := cell_of_row w C 2 _ _ _ hC
  have f2 : w.frozen? ⟨C, 2, none⟩ = false := frozen_of_row w C 2 _ _ hC
  have s0 : ∀ v, (w.setCell ⟨C, 2, none⟩ v).cell? ⟨C, 0, none⟩ = some (.slice (some ⟨b, off, none⟩) len cap) := fun v => cell_of_row _ C 0 _ _ _ (set_block hC 2 v)
  have s1 : ∀ v, (w.setCell ⟨C, 2, none⟩ v).cell? ⟨C, 1, none⟩ = some (.int .i64 i) := fun v => cell_of_row _ C 1 _ _ _ (set_block hC 2 v)
  have s2 : ∀ v, (w.setCell ⟨C, 2, none⟩ v).cell? ⟨C, 2, none⟩ = some v := fun v => cell_of_row _ C 2 _ _ _ (set_block hC 2 v)
  have f1 : ∀ v, (w.setCell ⟨C, 2, none⟩ v).frozen? ⟨C, 1, none⟩ = false := fun v => frozen_of_row _ C 1 _ _ (set_block hC 2 v)
  have sb : ∀ v, (w.setCell ⟨C, 2, none⟩ v).cell? ⟨b, off + i, none⟩ = some (.int .u8 (u.toNat : Int)) := fun v => by
    have hg := set_grown (World.grownBy.refl w (some C)) 2 v
    exact hg.cell hu (by simp; omega)
  have hu255 : (u.toNat : Int) ≤ 255 := by have := u.toNat_lt; omega
  have HC := Lib.hid hC; clear hC hu hne
  go_enter Try.func79, Try.ntmps79
  go_wp2_with fail
  go_quiet (fail)
  go_wp2_with fail
  obtain ⟨n, hn, hne⟩ := and255 (bits BinOp.xor IntKind.i64 (wrap64 (wrap64 (h * 6364136223846793005) + 1442695040888963407) / 8589934592) (wrap64 (wrap64 (h * 6364136223846793005) + 1442695040888963407) / 35184372088832))
  rw [hne]
  clear hne
  go_quiet (fail)
  go_wp2_with fail
  go_quiet (fail)
  go_wp2_with fail
  obtain ⟨m, hm, hme⟩ := and255 ((n : Int) + (u.toNat : Int))
  rw [hme]
  go_ret
  refine ⟨⟨m, hm, rfl⟩, ⟨hB, i + 1, nextH h, by omega, ?_⟩, ?_⟩
  · exact set_block (set_block HC.out 2 (.int .i64 (nextH h))) 1 (.int .i64 ((i + 1 : Nat) : Int))
  · repeat (first | exact World.grownBy.refl _ _ | refine set_grown ?_ _ _ | refine drew_grown ?_ _)

/-- The cursor and the code that it reads. -/
def Dr (B C : Nat) (cv : Value) (len : Nat) (w : World) : Prop := len ≤ 1048576 ∧ CodeB B w cv len ∧ Cur B C w cv len
theorem CodeB.grown {B C : Nat} {w w' : World} {cv : Value} {len : Nat} (h : CodeB B w cv len) (hB : B ≤ C) (hg : w.grownBy w' (some C)) : CodeB B w' cv len := by
  rcases h with h | ⟨b, off, cap, h1, h2, h3⟩
  · exact Or.inl h
  · refine Or.inr ⟨b, off, cap, h1, h2, fun j hj => ?_⟩
    obtain ⟨u, hu⟩ := h3 j hj
    exact ⟨u, hg.cell hu (by simp; omega)⟩
/-- What a draw leaves: the cursor stands, only its block was written. -/
def DrTo (B C : Nat) (cv : Value) (len : Nat) (w w' : World) : Prop := Dr B C cv len w' ∧ w.grownBy w' (some C)
theorem DrTo.trans {B C : Nat} {cv : Value} {len : Nat} {w w1 w2 : World} (h : DrTo B C cv len w w1) (k : DrTo B C cv len w1 w2) : DrTo B C cv len w w2 := ⟨k.1, h.2.trans k.2⟩

/-- One byte of the draw. -/
theorem byte_any (B C : Nat) (w : World) (cv : Value) (len : Nat) (hd : Dr B C cv len w) :
    Calls Try.prog 79 #[.pointer (some ⟨C, 0, none⟩)] w fun e w' => ∃ n : Nat, n ≤ 255 ∧ e = .returned (.int .i64 n) ∧ DrTo B C cv len w w' := by
  obtain ⟨hl, hcode, hcur⟩ := hd
  have hcode0 := hcode
  obtain ⟨hB, i, h, hi, hC⟩ := hcur
  have key : Calls Try.prog 79 #[.pointer (some ⟨C, 0, none⟩)] w fun e w' => (∃ n : Nat, n ≤ 255 ∧ e = .returned (.int .i64 n)) ∧ Cur B C w' cv len ∧ w.grownBy w' (some C) := by
    rcases hcode with ⟨⟨a, cap, rfl⟩, rfl⟩ | ⟨b, off, cap, rfl, hb, hc⟩
    · exact byte_end B C w a cap 0 i h (by omega) hl hi hB hC
    · by_cases hlt : i < len
      · obtain ⟨u, hu⟩ := hc i hlt
        exact byte_more B C w b off cap len i h u hlt hl hb hB hC hu
      · exact byte_end B C w _ cap len i h hlt hl hi hB hC
  exact key.mono fun e w' ⟨⟨n, hn, he⟩, h1, h2⟩ => ⟨n, hn, he, ⟨hl, hcode0.grown hB h2, h1⟩, h2⟩

set_option maxHeartbeats 400000 in
theorem below_small (B C : Nat) (w : World) (cv : Value) (len : Nat) (n : Nat) (h1 : 1 ≤ n) (h2 : n ≤ 256) (hd : Dr B C cv len w) :
    Calls Try.prog 59 #[.pointer (some ⟨C, 0, none⟩), .int .i64 n] w fun e w' => ∃ r : Nat, r < n ∧ e = .returned (.int .i64 r) ∧ DrTo B C cv len w w' := by
  have HD := Lib.hid hd; clear hd
  go_enter Try.func59, Try.ntmps59
  go_wp2_with fail
  refine (byte_any B C _ cv len HD.out).mono ?_
  rintro e w1 ⟨x, hx, rfl, hd1⟩
  have HD1 := Lib.hid hd1; clear hd1
  go_wp2_with fail
  go_ret
  exact ⟨x % n, Nat.mod_lt _ (by omega), by simp, HD1.out⟩

set_option maxHeartbeats 400000 in
theorem below_large (B C : Nat) (w : World) (cv : Value) (len : Nat) (n : Nat) (h1 : 256 < n) (h2 : n ≤ 4294967296) (hd : Dr B C cv len w) :
    Calls Try.prog 59 #[.pointer (some ⟨C, 0, none⟩), .int .i64 n] w fun e w' => ∃ r : Nat, r < n ∧ e = .returned (.int .i64 r) ∧ DrTo B C cv len w w' := by
  have HD := Lib.hid hd; clear hd
  go_enter Try.func59, Try.ntmps59
  go_wp2_with fail
  refine (byte_any B C _ cv len HD.out).mono ?_
  rintro e w1 ⟨x, hx, rfl, hd1⟩
  have HD1 := Lib.hid hd1; clear hd1
  go_wp2_with fail
  refine (byte_any B C _ cv len HD1.out.1).mono ?_
  rintro e w2 ⟨y, hy, rfl, hd2⟩
  have HD2 := Lib.hid (HD1.out.trans hd2); clear hd2
  go_wp2_with fail
  refine (byte_any B C _ cv len HD2.out.1).mono ?_
  rintro e w3 ⟨z, hz, rfl, hd3⟩
  have HD3 := Lib.hid (HD2.out.trans hd3); clear hd3
  go_wp2_with fail
  refine (byte_any B C _ cv len HD3.out.1).mono ?_
  rintro e w4 ⟨u, hu, rfl, hd4⟩
  have HD4 := Lib.hid (HD3.out.trans hd4); clear hd4
  go_wp2_with fail
  go_ret
  exact ⟨(x * 16777216 + y * 65536 + z * 256 + u) % n, Nat.mod_lt _ (by omega), by simp, HD4.out⟩

theorem below_any (B C : Nat) (w : World) (cv : Value) (len : Nat) (n : Nat) (h1 : 1 ≤ n) (h2 : n ≤ 4294967296) (hd : Dr B C cv len w) :
    Calls Try.prog 59 #[.pointer (some ⟨C, 0, none⟩), .int .i64 n] w fun e w' => ∃ r : Nat, r < n ∧ e = .returned (.int .i64 r) ∧ DrTo B C cv len w w' := by
  rcases Nat.lt_or_ge 256 n with h | h
  · exact below_large B C w cv len n h h2 hd
  · exact below_small B C w cv len n h1 h hd

/-- An int that a machine holds. -/
def isI64 (v : Int) : Prop := -9223372036854775808 ≤ v ∧ v ≤ 9223372036854775807

theorem Dr.alloc {B C : Nat} {cv : Value} {len : Nat} {w : World} (h : Dr B C cv len w) (o : Obj) : Dr B C cv len (w.alloc o) := by
  obtain ⟨hl, hc, hB, i, x, hi, hC⟩ := h
  have hlt : C < w.heap.size := (Array.getElem?_eq_some_iff.1 hC).1
  have hg : w.grownBy (w.alloc o) none := World.grownBy_alloc w o none
  refine ⟨hl, ?_, hB, i, x, hi, (hg.block C hlt (by simp)).trans hC⟩
  rcases hc with h | ⟨b, off, cap, h1, h2, h3⟩
  · exact Or.inl h
  · refine Or.inr ⟨b, off, cap, h1, h2, fun j hj => ?_⟩
    obtain ⟨u, hu⟩ := h3 j hj
    exact ⟨u, hg.cell hu (by simp)⟩
theorem Dr.lt {B C : Nat} {cv : Value} {len : Nat} {w : World} (h : Dr B C cv len w) : C < w.heap.size := by
  obtain ⟨hl, hc, hB, i, x, hi, hC⟩ := h
  exact (Array.getElem?_eq_some_iff.1 hC).1
theorem Dr.below {B C base : Nat} {cv : Value} {len : Nat} {w w' : World} (h : Dr B C cv len w) (hb : Below base w w') (hC : C < base) : Dr B C cv len w' := by
  obtain ⟨hl, hc, hB, i, x, hi, hCC⟩ := h
  refine ⟨hl, ?_, hB, i, x, hi, (hb.block C hC).trans hCC⟩
  rcases hc with h | ⟨b, off, cap, h1, h2, h3⟩
  · exact Or.inl h
  · refine Or.inr ⟨b, off, cap, h1, h2, fun j hj => ?_⟩
    obtain ⟨u, hu⟩ := h3 j hj
    exact ⟨u, (hb.cell (p := ⟨b, off + j, none⟩) (by show b < base; omega)).trans hu⟩

set_option maxHeartbeats 400000 in
theorem pick_any (B C : Nat) (w : World) (cv : Value) (len : Nat) (G : Nat) (vals : List Int) (m : Nat) (hm : vals.length = m) (h1 : 1 ≤ m) (h2 : m ≤ 1000) (hv : ∀ v, v ∈ vals → isI64 v)
    (hG : w.heap[G]? = some (.cells (vals.map (Value.int .i64)).toArray 3 (0, 0))) (hne : G ≠ C) (hd : Dr B C cv len w) :
    Calls Try.prog 78 #[.pointer (some ⟨C, 0, none⟩), .slice (some ⟨G, 0, none⟩) m m] w fun e w' => ∃ v : Int, isI64 v ∧ e = .returned (.int .i64 v) ∧ DrTo B C cv len w w' := by
  have HD := Lib.hid hd; clear hd
  have HG := Lib.hid hG; clear hG
  go_enter Try.func78, Try.ntmps78
  go_wp2_with fail
  refine (below_any B C _ cv len m h1 (by omega) HD.out).mono ?_
  rintro e w1 ⟨r, hr, rfl, hd1⟩
  have hcell : w1.cell? ⟨G, r, none⟩ = some (.int .i64 (vals[r]'(by omega))) := by
    have : w.cell? ⟨G, r, none⟩ = some (.int .i64 (vals[r]'(by omega))) := by
      rw [cell_of_row w G r _ _ _ HG.out]
      simp [show r < vals.length by omega]
    exact hd1.2.cell this (by simp; omega)
  have hin := hv _ (List.getElem_mem (show r < vals.length by omega))
  have HIN := Lib.hid hin; clear hin
  have HD1 := Lib.hid hd1; clear hd1
  generalize vals[r]'(by omega) = v at *
  go_wp2_with fail
  go_ret
  exact ⟨v, HIN.out, rfl, HD1.out⟩
end Go.Proofs.Ytbmghddmilgngaa
