/-
  Slices of bytes that the call itself made: what they own, and what the conversion to a string gives.
-/
import Derived.Test.YteknoaikgmlhcaaRows
import Derived.Test.YteknoaikgmlhcaaPlain
import Derived.Test.YteknoaikgmlhcaaOwn
import Derived.Handy
import Derived.Lib.Hide
namespace Go.Proofs.Yteknoaikgmlhcaa
open Go.RowKit

def byteV (b : UInt8) : Value := .int .u8 (b.toNat : Int)
def bytesV (l : List UInt8) : List Value := l.map byteV
theorem bytesV_length (l : List UInt8) : (bytesV l).length = l.length := by simp [bytesV]
theorem bytesV_append (l r : List UInt8) : bytesV (l ++ r) = bytesV l ++ bytesV r := by simp [bytesV]

theorem Try.infoU8 : (Try.prog.info? 5).map (fun i => (i.zero, i.size, i.bytes)) = some (some (.int .u8 0), 1, 1) := by kernel_rfl

/-- 'v' is a slice of bytes of the call's own, reading 'l'. -/
def OwnB (w : World) (base : Nat) (v : Value) (l : List UInt8) : Prop := w.ownsRow base 5 1 v l.length (bytesV l)

theorem convB {w : World} {base : Nat} {v : Value} {l : List UInt8} (h : OwnB w base v l) :
    (convert 36 9 v).run Try.prog w = .ok (.string ⟨l.toArray⟩) w := by
  obtain ⟨_, h | h⟩ := h
  · obtain ⟨rfl, hl⟩ := h
    have : l = [] := List.eq_nil_of_length_eq_zero hl
    subst this
    exact run_convert_bytes_nil w 36 5 Try.underlying36 Try.underlying5 0 0 9 Try.underlying9
  · obtain ⟨g, cap, cur, rfl, hg, hb, hn, hc, hs, ht⟩ := h
    have := run_convert_bytes_arg (P := Try.prog) w 36 5 Try.underlying36 Try.underlying5 g 0 l.length cap (l.map fun b => (b.toNat : Int)) (by simp) (fun i hi => by
      have e1 : (bytesV l)[i]? = some (byteV l[i]) := by simp [bytesV, hi]
      rw [← ht, Nat.mul_one, List.getElem?_take_of_lt hi] at e1
      have e2 : w.cell? ⟨g, 0 + i, none⟩ = cur.toList[i]? := by
        simp [World.cell?, hb]
      rw [e2, e1]
      simp [byteV, List.getD, hi]) 9 Try.underlying9
    rw [this]
    congr 3
    simp only [strOfNums, List.map_map]
    congr 1
    conv => rhs; rw [← List.map_id l]
    refine congrArg List.toArray (List.map_congr_left ?_)
    intro x _
    simp

theorem byteV_one (b : UInt8) : (byteV b).oneCell' = true := rfl
theorem ownB_lit (w : World) (base : Nat) (hb : base ≤ w.heap.size) (l : List UInt8) (hl : l.length ≤ maxLen) : OwnB (w.alloc (.cells (bytesV l).toArray 5)) base (.slice (some ⟨w.heap.size, 0, none⟩) l.length l.length) l := by
  have := World.ownsRow_lit (base := base) (e := 5) (size := 1) w (bytesV l).toArray l.length hb hl (by simp [bytesV])
  simpa [OwnB] using this
theorem ownB_empty (w : World) (base : Nat) (hb : base ≤ w.heap.size) : OwnB (w.alloc (.cells #[] 5)) base (.slice (some ⟨w.heap.size, 0, none⟩) 0 0) [] := by
  have := ownB_lit w base hb [] (by simp)
  simpa [bytesV] using this
theorem ownB_nil (w : World) (base : Nat) : OwnB w base (.slice none 0 0) [] := World.ownsRow_nil _ _ _ _

/-- 'append(s, b)' on bytes of the call's own. -/
theorem append_byte {ops : Array Oper} {rest : List Oper} {o : Oper} {a : Act} {Q : Exit → Act → World → Prop} {wr : World} {base : Nat} {v : Value} {l : List UInt8} (hown : OwnB wr base v l) (hbase : base ≤ wr.heap.size)
    (b : UInt8) {u : Int} (hu : (b.toNat : Int) = u) {s x : Operand} (hgd : o.guard = none)
    (ho : o.op = .call { callee := .builtin .append, args := #[s, x], argTypes := #[36, 36] }) (hs : a.eval s = v)
    (hx : a.eval x = .slice (some ⟨wr.heap.size, 0, none⟩) 1 1) (hlen : l.length ≤ 70368744177664)
    (h : ∀ v' w', OwnB w' base v' (l ++ [b]) → (∀ W, Below base W wr → Below base W w') → base ≤ w'.heap.size → wpList Try.prog ops Q rest (a.put o.dst v') w') :
    wpList Try.prog ops Q (o :: rest) a (wr.alloc (.cells #[.int .u8 u] 5)) := by
  obtain ⟨i0, hi, hz0, hz1, hz2⟩ := info_parts Try.infoU8
  have hl := bytesV_length l
  subst hu
  refine append_one hgd s x 36 ho base 5 i0 (.int .u8 0) 1 Try.underlying36 hi hz0 hz1 hz2 rfl v (bytesV l) (byteV b) rfl wr hs (by rw [hl]; exact hown) hx (by omega) (Nat.le_refl _) hbase ?_
  intro v' w' h1 h2 h3
  refine h v' w' ?_ h2 h3
  unfold OwnB
  rw [bytesV_append, List.length_append]
  have e : (bytesV l ++ [byteV b]).length = l.length + [b].length := by simp [hl]
  rw [e] at h1
  exact h1
end Go.Proofs.Yteknoaikgmlhcaa
