/-
  Plain facts on numbers and bytes (no program): bit operations on small numbers.
  Slices that the call itself made, element by element: the law for one more element (over any program).
  Slices of bytes that the call itself made: what they own, and what the conversion to a string gives.
-/
import Derived.WalkKit
import Derived.Laws.Bits64b
import Derived.Laws.Bits128
import Derived.Laws.BitsAllLaws
import Derived.Handy
import Derived.Lib.Hide
import Derived.Deep.DeepMust
import Derived.Deep.RegionLaw
import Derived.OwnWalk
import Derived.Test.YtfjeghalkmkgoaaGreatDoorRows
namespace Go.Proofs.YtfjeghalkmkgoaaGreatDoor
open Go.RowKit

theorem or_i64_nat (a b : Nat) (ha : a < 9223372036854775808) (hb : b < 9223372036854775808) :
    bits .or .i64 (a : Int) (b : Int) = ((a ||| b : Nat) : Int) := by
  have hx : a ||| b < 2 ^ 63 := Nat.or_lt_two_pow ha hb
  have h1 : (BitVec.ofInt 64 (a : Int)).toNat = a := by
    rw [BitVec.ofInt_natCast, BitVec.toNat_ofNat]; exact Nat.mod_eq_of_lt (by omega)
  have h2 : (BitVec.ofInt 64 (b : Int)).toNat = b := by
    rw [BitVec.ofInt_natCast, BitVec.toNat_ofNat]; exact Nat.mod_eq_of_lt (by omega)
  show IntKind.i64.wrap ((BitVec.ofInt 64 (a : Int) ||| BitVec.ofInt 64 (b : Int)).toNat : Int) = _
  rw [BitVec.toNat_or, h1, h2, IntKind.wrap_i64]
  omega

theorem or_low (a b i : Nat) (hb : b < 2 ^ i) : a * 2 ^ i ||| b = a * 2 ^ i + b := by
  have := Nat.two_pow_add_eq_or_of_lt hb a
  rw [Nat.mul_comm] ; omega

theorem or_byte (a b : Nat) (ha : a ≤ 281474976710655) (hb : b ≤ 255) : bits .or .i64 ((a : Int) * 256) (b : Int) = (a : Int) * 256 + b := by
  have h := or_i64_nat (a * 256) b (by omega) (by omega)
  have e := or_low a b 8 (by omega)
  rw [show ((a : Int) * 256) = ((a * 256 : Nat) : Int) by omega, h]
  rw [show (2 : Nat) ^ 8 = 256 from rfl] at e
  rw [e]; omega

theorem and127_or128 (n : Nat) : bits .or .i64 (bits .and .i64 (n : Int) 127) 128 = 128 + (n : Int) % 128 := by
  rw [i64_and127]
  have h := or_i64_nat (n % 128) 128 (by omega) (by omega)
  have e : (n % 128) ||| 128 = n % 128 + 128 := by
    have := or_low 1 (n % 128) 7 (by omega)
    rw [Nat.or_comm]; simpa [Nat.add_comm] using this
  rw [e] at h
  rw [show ((n : Int) % 128) = ((n % 128 : Nat) : Int) by omega]
  rw [show (128 : Int) = ((128 : Nat) : Int) from rfl, h]
  omega

theorem pow128 (k : Nat) : 2 ^ (7 * k) = 128 ^ k := by rw [Nat.pow_mul]

theorem or_shift (v k : Nat) (B : Int) (b : Nat) (hB : B = b) (hb : b < 256) (hv : v < 128 ^ k) (hk : k < 7) :
    bits .or .i64 (v : Int) (wrap64 (wrap64 (bits .and .u8 B 127) * 2 ^ (7 * k))) = ((v + 128 ^ k * (b % 128) : Nat) : Int) := by
  subst hB
  have e1 : bits .and .u8 (b : Int) 127 = ((b % 128 : Nat) : Int) := by
    have := u8_and_nat b 127 hb (by omega)
    rw [show ((127 : Nat) : Int) = 127 from rfl] at this
    rw [this, show b &&& 127 = b % 128 from Nat.and_two_pow_sub_one_eq_mod b 7]
  have hp : 128 ^ k ≤ 128 ^ 6 := Nat.pow_le_pow_right (by omega) (by omega)
  have hp6 : (128 : Nat) ^ 6 = 4398046511104 := by decide
  have hm : (b % 128) * 128 ^ k ≤ 127 * 4398046511104 := Nat.mul_le_mul (by omega) (by omega)
  have e2 : wrap64 ((b % 128 : Nat) : Int) = ((b % 128 : Nat) : Int) := IntWalk.wrap64_in _ ⟨by omega, by omega⟩
  have e3 : (2 : Int) ^ (7 * k) = ((128 ^ k : Nat) : Int) := by
    rw [← pow128]; simp
  have e4 : wrap64 (((b % 128 : Nat) : Int) * ((128 ^ k : Nat) : Int)) = (((b % 128) * 128 ^ k : Nat) : Int) := by
    rw [← Int.natCast_mul]
    exact IntWalk.wrap64_in _ ⟨by omega, by omega⟩
  rw [e1, e2, e3, e4, or_i64_nat _ _ (by omega) (by omega), Nat.or_comm]
  rw [← pow128] at hv ⊢
  rw [or_low _ _ _ hv, Nat.mul_comm, Nat.add_comm]

/-- A byte in a region that draws its order: the wraps that the walk leaves there. -/
theorem byte_wrap (b : UInt8) : IntKind.i64.wrap (b.toNat : Int) = (b.toNat : Int) := IntWalk.i64_in _ (by have := b.toNat_lt; omega)
theorem byte_tdiv16 (b : UInt8) : ((b.toNat : Int)).tdiv 16 = (b.toNat : Int) / 16 := Int.tdiv_eq_ediv_of_nonneg (by omega)
theorem byte_tmod16 (b : UInt8) : ((b.toNat : Int)).tmod 16 = (b.toNat : Int) % 16 := Int.tmod_eq_emod_of_nonneg (by omega)
theorem byte_wrap16 (b : UInt8) : IntKind.i64.wrap ((b.toNat : Int) / 16) = (b.toNat : Int) / 16 := IntWalk.i64_in _ (by have := b.toNat_lt; omega)

theorem byte_and15 (b : UInt8) : bits .and .u8 (b.toNat : Int) 15 = (b.toNat : Int) % 16 := by
  have := u8_and_nat b.toNat 15 b.toNat_lt (by omega)
  rw [show ((15 : Nat) : Int) = 15 from rfl] at this
  rw [this, show b.toNat &&& 15 = b.toNat % 16 from Nat.and_two_pow_sub_one_eq_mod b.toNat 4]
  omega

theorem nib_or (a b : Nat) (ha : a ≤ 15) (hb : b ≤ 15) : bits .or .u8 ((a : Int) * 16) (b : Int) = ((16 * a + b : Nat) : Int) := by
  have h := u8_or_nat (a * 16) b (by omega) (by omega)
  have e := or_low a b 4 (by omega)
  rw [show (2 : Nat) ^ 4 = 16 from rfl] at e
  rw [show ((a : Int) * 16) = ((a * 16 : Nat) : Int) by omega, h, e]
  omega
end Go.Proofs.YtfjeghalkmkgoaaGreatDoor
namespace Go.Proofs.YtfjeghalkmkgoaaGreatDoor
open Go.RowKit

/-- 'append(s, u)' of one element of one cell, on a slice of the call's own: the literal of one element has just been made. -/
theorem append_one {P : Program} {ops : Array Oper} {rest : List Oper} {o : Oper} {a : Act} {Q : Exit → Act → World → Prop} (hgd : o.guard = none) (s x : Operand) (t : TypeId)
    (ho : o.op = .call { callee := .builtin .append, args := #[s, x], argTypes := #[t, t] })
    (base : Nat) (e : TypeId) (i : TypeInfo) (z : Value) (bytes : Nat) (ht : P.underlying t = some (.slice e)) (hi : P.info? e = some i) (hz : i.zero = some z)
    (hsize : i.size = 1) (hby : i.bytes = bytes) (hzs : z.cells.size = 1)
    (v : Value) (xs : List Value) (u : Value) (hu : u.oneCell' = true) (wr : World) (hs : a.eval s = v) (hown : wr.ownsRow base e 1 v xs.length xs)
    (hx : a.eval x = .slice (some ⟨wr.heap.size, 0, none⟩) 1 1) (hlen : (xs.length + 1) * bytes ≤ 140737488355328) (hb1 : 1 ≤ bytes) (hbase : base ≤ wr.heap.size)
    (h : ∀ v' w', w'.ownsRow base e 1 v' (xs ++ [u]).length (xs ++ [u]) → (∀ W, Below base W wr → Below base W w') → base ≤ w'.heap.size → wpList P ops Q rest (a.put o.dst v') w') :
    wpList P ops Q (o :: rest) a (wr.alloc (.cells #[u] e)) := by
  have hmul : xs.length + 1 ≤ (xs.length + 1) * bytes := Nat.le_mul_of_pos_right _ hb1
  refine wpList_append_own _ hgd s x t ho base e i z 1 bytes ht hi hz hsize hby hzs (by omega) v xs.length xs hs (hown.alloc _) ⟨wr.heap.size, 0, none⟩ 1 1 [u] hx rfl ?_ ?_ ?_ ?_ ?_ ?_
  · intro j u' hj
    match j, hj with
    | 0, hj =>
      simp at hj
      subst hj
      rw [show (⟨wr.heap.size, 0, none⟩ : Addr).add 0 = ⟨wr.heap.size, 0, none⟩ from rfl, World.cell?_alloc_at _ _ _ _ rfl]
      rfl
    | j + 1, hj => simp at hj
  · intro u' hu'
    simp at hu'
    subst hu'
    exact hu
  · unfold maxLen; omega
  · exact hlen
  · simp; omega
  · intro v' w' ho' hg _
    refine h v' w' (by simpa using ho') (fun W hW => (hW.alloc hbase _).grown hg (by simp; omega) (fun j hj => (hown.lt j hj).1)) ?_
    have := hg.size; simp at this; omega

/-- 'append(s, u0, u1, ..)' of elements of one cell, on a slice of the call's own: the literal of the new elements has just been made. -/
theorem append_many {P : Program} {ops : Array Oper} {rest : List Oper} {o : Oper} {a : Act} {Q : Exit → Act → World → Prop} (hgd : o.guard = none) (s x : Operand) (t : TypeId)
    (ho : o.op = .call { callee := .builtin .append, args := #[s, x], argTypes := #[t, t] })
    (base : Nat) (e : TypeId) (i : TypeInfo) (z : Value) (bytes : Nat) (ht : P.underlying t = some (.slice e)) (hi : P.info? e = some i) (hz : i.zero = some z)
    (hsize : i.size = 1) (hby : i.bytes = bytes) (hzs : z.cells.size = 1)
    (v : Value) (xs us : List Value) (hu : ∀ u ∈ us, u.oneCell' = true) (wr : World) (hs : a.eval s = v) (hown : wr.ownsRow base e 1 v xs.length xs)
    (hx : a.eval x = .slice (some ⟨wr.heap.size, 0, none⟩) us.length us.length) (hlen : (xs.length + us.length) * bytes ≤ 140737488355328) (hb1 : 1 ≤ bytes) (hbase : base ≤ wr.heap.size)
    (h : ∀ v' w', w'.ownsRow base e 1 v' (xs ++ us).length (xs ++ us) → (∀ W, Below base W wr → Below base W w') → base ≤ w'.heap.size → wpList P ops Q rest (a.put o.dst v') w') :
    wpList P ops Q (o :: rest) a (wr.alloc (.cells us.toArray e)) := by
  have hmul : xs.length + us.length ≤ (xs.length + us.length) * bytes := Nat.le_mul_of_pos_right _ hb1
  refine wpList_append_own _ hgd s x t ho base e i z 1 bytes ht hi hz hsize hby hzs (by omega) v xs.length xs hs (hown.alloc _) ⟨wr.heap.size, 0, none⟩ us.length us.length us hx (by omega) ?_ hu ?_ ?_ ?_ ?_
  · intro j u' hj
    have hadd : (⟨wr.heap.size, 0, none⟩ : Addr).add j = ⟨wr.heap.size, j, none⟩ := by unfold Addr.add; split <;> simp_all
    rw [hadd, World.cell?_alloc_at _ _ _ _ rfl]
    simpa using hj
  · unfold maxLen; omega
  · exact hlen
  · simp; omega
  · intro v' w' ho' hg _
    refine h v' w' (by simpa using ho') (fun W hW => (hW.alloc hbase _).grown hg (by simp; omega) (fun j hj => (hown.lt j hj).1)) ?_
    have := hg.size; simp at this; omega

/-- The same as one step of a region that draws its order: the literal's block lies at g, in whatever world. -/
theorem step_many {P : Program} {ops : Array Oper} {o : Oper} {a : Act} {K : Act → World → Prop} {Q : Exit → Act → World → Prop} {E : Prop} {w : World} (hgd : o.guard = none) (s x : Operand) (t : TypeId)
    (ho : o.op = .call { callee := .builtin .append, args := #[s, x], argTypes := #[t, t] })
    (base : Nat) (e : TypeId) (i : TypeInfo) (z : Value) (bytes : Nat) (ht : P.underlying t = some (.slice e)) (hi : P.info? e = some i) (hz : i.zero = some z)
    (hsize : i.size = 1) (hby : i.bytes = bytes) (hzs : z.cells.size = 1)
    (v : Value) (xs us : List Value) (g : Nat) (hu : ∀ u ∈ us, u.oneCell' = true) (hs : a.eval s = v) (hown : w.ownsRow base e 1 v xs.length xs)
    (hx : a.eval x = .slice (some ⟨g, 0, none⟩) us.length us.length) (hnew : w.heap[g]? = some (.cells us.toArray e (0, 0))) (hlen : (xs.length + us.length) * bytes ≤ 140737488355328) (hb1 : 1 ≤ bytes) (hbase : base ≤ w.heap.size)
    (h : ∀ v' w', w'.ownsRow base e 1 v' (xs ++ us).length (xs ++ us) → (∀ W, Below base W w → Below base W w') → base ≤ w'.heap.size → K (a.put o.dst v') w') :
    if Region.wanted o (yielded ops a.tmps) = true then Oper.wp P o a w K Q else E := by
  have hw : Region.wanted o (yielded ops a.tmps) = true := by simp [Region.wanted, hgd]
  rw [if_pos hw]
  have hmul : xs.length + us.length ≤ (xs.length + us.length) * bytes := Nat.le_mul_of_pos_right _ hb1
  refine wp_append_own w s x t ho base e i z 1 bytes ht hi hz hsize hby hzs (by omega) v xs.length xs hs hown ⟨g, 0, none⟩ us.length us.length us hx (by omega) ?_ hu ?_ hlen hbase ?_
  · intro j u' hj
    have hadd : (⟨g, 0, none⟩ : Addr).add j = ⟨g, j, none⟩ := by unfold Addr.add; split <;> simp_all
    rw [hadd, cell_of_row w g j us.toArray e (0, 0) hnew]
    simpa using hj
  · unfold maxLen; omega
  · intro v' w' ho' hg _
    refine h v' w' (by simpa using ho') (fun W hW => hW.grown hg hbase (fun j hj => (hown.lt j hj).1)) ?_
    have := hg.size; omega
end Go.Proofs.YtfjeghalkmkgoaaGreatDoor
namespace Go.Proofs.YtfjeghalkmkgoaaGreatDoor
open Go.RowKit

def byteV (b : UInt8) : Value := .int .u8 (b.toNat : Int)
def bytesV (l : List UInt8) : List Value := l.map byteV
theorem bytesV_length (l : List UInt8) : (bytesV l).length = l.length := by simp [bytesV]
theorem bytesV_append (l r : List UInt8) : bytesV (l ++ r) = bytesV l ++ bytesV r := by simp [bytesV]

theorem Tryz.infoU8 : (Tryz.prog.info? 5).map (fun i => (i.zero, i.size, i.bytes)) = some (some (.int .u8 0), 1, 1) := by kernel_rfl

/-- 'v' is a slice of bytes of the call's own, reading 'l'. -/
def OwnB (w : World) (base : Nat) (v : Value) (l : List UInt8) : Prop := w.ownsRow base 5 1 v l.length (bytesV l)

set_option maxRecDepth 100000 in
theorem convB {w : World} {base : Nat} {v : Value} {l : List UInt8} (h : OwnB w base v l) :
    (convert 22 9 v).run Tryz.prog w = .ok (.string ⟨l.toArray⟩) w := by
  obtain ⟨_, h | h⟩ := h
  · obtain ⟨rfl, hl⟩ := h
    have : l = [] := List.eq_nil_of_length_eq_zero hl
    subst this
    exact run_convert_bytes_nil w 22 5 Tryz.underlying22 Tryz.underlying5 0 0 9 Tryz.underlying9
  · obtain ⟨g, cap, cur, rfl, hg, hb, hn, hc, hs, ht⟩ := h
    have := run_convert_bytes_arg (P := Tryz.prog) w 22 5 Tryz.underlying22 Tryz.underlying5 g 0 l.length cap (l.map fun b => (b.toNat : Int)) (by simp) (fun i hi => by
      have e1 : (bytesV l)[i]? = some (byteV l[i]) := by simp [bytesV, hi]
      rw [← ht, Nat.mul_one, List.getElem?_take_of_lt hi] at e1
      have e2 : w.cell? ⟨g, 0 + i, none⟩ = cur.toList[i]? := by
        simp [World.cell?, hb]
      rw [e2, e1]
      simp [byteV, List.getD, hi]) 9 Tryz.underlying9
    rw [this]
    congr 3
    simp only [strOfNums, List.map_map]
    congr 1
    conv => rhs; rw [← List.map_id l]
    refine congrArg List.toArray (List.map_congr_left ?_)
    intro x _
    simp

theorem byteV_one (b : UInt8) : (byteV b).oneCell' = true := rfl
theorem ownB_lit (w : World) (base : Nat) (hb : base ≤ w.heap.size) (l : List UInt8) (hl : l.length ≤ maxLen) : OwnB (w.alloc (.cells (bytesV l).toArray 5)) base (.slice (some ⟨w.heap.size, 0, none⟩) l.length l.length) l := by
  have := World.ownsRow_lit (base := base) (e := 5) (size := 1) w (bytesV l).toArray l.length hb hl (by simp [bytesV])
  simpa [OwnB] using this
theorem ownB_empty (w : World) (base : Nat) (hb : base ≤ w.heap.size) : OwnB (w.alloc (.cells #[] 5)) base (.slice (some ⟨w.heap.size, 0, none⟩) 0 0) [] := by
  have := ownB_lit w base hb [] (by simp)
  simpa [bytesV] using this
theorem ownB_nil (w : World) (base : Nat) : OwnB w base (.slice none 0 0) [] := World.ownsRow_nil _ _ _ _

/-- 'append(s, b)' on bytes of the call's own. -/
theorem append_byte {ops : Array Oper} {rest : List Oper} {o : Oper} {a : Act} {Q : Exit → Act → World → Prop} {wr : World} {base : Nat} {v : Value} {l : List UInt8} (hown : OwnB wr base v l) (hbase : base ≤ wr.heap.size)
    (b : UInt8) {u : Int} (hu : (b.toNat : Int) = u) {s x : Operand} (hgd : o.guard = none)
    (ho : o.op = .call { callee := .builtin .append, args := #[s, x], argTypes := #[22, 22] }) (hs : a.eval s = v)
    (hx : a.eval x = .slice (some ⟨wr.heap.size, 0, none⟩) 1 1) (hlen : l.length ≤ 70368744177664)
    (h : ∀ v' w', OwnB w' base v' (l ++ [b]) → (∀ W, Below base W wr → Below base W w') → base ≤ w'.heap.size → wpList Tryz.prog ops Q rest (a.put o.dst v') w') :
    wpList Tryz.prog ops Q (o :: rest) a (wr.alloc (.cells #[.int .u8 u] 5)) := by
  obtain ⟨i0, hi, hz0, hz1, hz2⟩ := info_parts Tryz.infoU8
  have hl := bytesV_length l
  subst hu
  refine append_one hgd s x 22 ho base 5 i0 (.int .u8 0) 1 Tryz.underlying22 hi hz0 hz1 hz2 rfl v (bytesV l) (byteV b) rfl wr hs (by rw [hl]; exact hown) hx (by omega) (Nat.le_refl _) hbase ?_
  intro v' w' h1 h2 h3
  refine h v' w' ?_ h2 h3
  unfold OwnB
  rw [bytesV_append, List.length_append]
  have e : (bytesV l ++ [byteV b]).length = l.length + [b].length := by simp [hl]
  rw [e] at h1
  exact h1

/-- 'append(s, b, c)' on bytes of the call's own. -/
theorem append_byte2 {ops : Array Oper} {rest : List Oper} {o : Oper} {a : Act} {Q : Exit → Act → World → Prop} {wr : World} {base : Nat} {v : Value} {l : List UInt8} (hown : OwnB wr base v l) (hbase : base ≤ wr.heap.size)
    (b c : UInt8) {u u' : Int} (hu : (b.toNat : Int) = u) (hu' : (c.toNat : Int) = u') {s x : Operand} (hgd : o.guard = none)
    (ho : o.op = .call { callee := .builtin .append, args := #[s, x], argTypes := #[22, 22] }) (hs : a.eval s = v)
    (hx : a.eval x = .slice (some ⟨wr.heap.size, 0, none⟩) 2 2) (hlen : l.length ≤ 70368744177664)
    (h : ∀ v' w', OwnB w' base v' (l ++ [b, c]) → (∀ W, Below base W wr → Below base W w') → base ≤ w'.heap.size → wpList Tryz.prog ops Q rest (a.put o.dst v') w') :
    wpList Tryz.prog ops Q (o :: rest) a (wr.alloc (.cells #[.int .u8 u, .int .u8 u'] 5)) := by
  obtain ⟨i0, hi, hz0, hz1, hz2⟩ := info_parts Tryz.infoU8
  have hl := bytesV_length l
  subst hu
  subst hu'
  refine append_many hgd s x 22 ho base 5 i0 (.int .u8 0) 1 Tryz.underlying22 hi hz0 hz1 hz2 rfl v (bytesV l) [byteV b, byteV c] (fun u h => by simp at h; rcases h with rfl | rfl <;> rfl) wr hs (by rw [hl]; exact hown) hx (by simp only [List.length_cons, List.length_nil]; omega) (Nat.le_refl _) hbase ?_
  intro v' w' h1 h2 h3
  refine h v' w' ?_ h2 h3
  unfold OwnB
  rw [bytesV_append, List.length_append]
  have e : (bytesV l ++ [byteV b, byteV c]).length = l.length + [b, c].length := by simp [hl]
  rw [e] at h1
  exact h1

theorem OwnB.alloc {w : World} {base : Nat} {v : Value} {l : List UInt8} (h : OwnB w base v l) (o : Obj) : OwnB (w.alloc o) base v l := World.ownsRow.alloc h o
theorem OwnB.drew {w : World} {base : Nat} {v : Value} {l : List UInt8} (h : OwnB w base v l) : OwnB w.drew base v l := World.ownsRow.drew h

/-- 'append(s, b, c)' on bytes of the call's own, as one step of a region that draws its order. -/
theorem step_byte2 {ops : Array Oper} {o : Oper} {a : Act} {K : Act → World → Prop} {Q : Exit → Act → World → Prop} {E : Prop} {w : World} {base : Nat} {v : Value} {l : List UInt8} (hown : OwnB w base v l) (hbase : base ≤ w.heap.size)
    (b c : UInt8) {u u' : Int} (hu : (b.toNat : Int) = u) (hu' : (c.toNat : Int) = u') {g : Nat} {s x : Operand} (hgd : o.guard = none)
    (ho : o.op = .call { callee := .builtin .append, args := #[s, x], argTypes := #[22, 22] }) (hs : a.eval s = v)
    (hx : a.eval x = .slice (some ⟨g, 0, none⟩) 2 2) (hnew : w.heap[g]? = some (.cells #[.int .u8 u, .int .u8 u'] 5 (0, 0))) (hlen : l.length ≤ 70368744177664)
    (h : ∀ v' w', OwnB w' base v' (l ++ [b, c]) → (∀ W, Below base W w → Below base W w') → base ≤ w'.heap.size → K (a.put o.dst v') w') :
    if Region.wanted o (yielded ops a.tmps) = true then Oper.wp Tryz.prog o a w K Q else E := by
  obtain ⟨i0, hi, hz0, hz1, hz2⟩ := info_parts Tryz.infoU8
  have hl := bytesV_length l
  subst hu
  subst hu'
  refine step_many hgd s x 22 ho base 5 i0 (.int .u8 0) 1 Tryz.underlying22 hi hz0 hz1 hz2 rfl v (bytesV l) [byteV b, byteV c] g (fun u h => by simp at h; rcases h with rfl | rfl <;> rfl) hs (by rw [hl]; exact hown) hx hnew (by simp only [List.length_cons, List.length_nil]; omega) (Nat.le_refl _) hbase ?_
  intro v' w' h1 h2 h3
  refine h v' w' ?_ h2 h3
  unfold OwnB
  rw [bytesV_append, List.length_append]
  have e : (bytesV l ++ [byteV b, byteV c]).length = l.length + [b, c].length := by simp [hl]
  rw [e] at h1
  exact h1

theorem madeU8 (n : Nat) : (madeCells (Value.int .u8 0).cells n).toList = bytesV (List.replicate n 0) := by
  apply List.ext_getElem
  · simp [madeCells, bytesV]
  · intro i h1 h2
    simp [madeCells, bytesV, byteV, Value.cells, Nat.mod_one]

/-- 'make([]byte, 0, n)'. -/
theorem make_bytes {ops : Array Oper} {rest : List Oper} {o : Oper} {a : Act} {Q : Exit → Act → World → Prop} (w : World) (base : Nat) (hbase : base ≤ w.heap.size) (n : Nat) {C : Int} (hC : C = (n : Int)) (hn : n ≤ 140737488355328)
    (hgd : o.guard = none) {l c : Operand} (ho : o.op = .makeSlice 22 l c) (hl : a.eval l = .int .i64 0) (hc : a.eval c = .int .i64 C)
    (h : ∀ w', OwnB w' base (.slice (some ⟨w.heap.size, 0, none⟩) 0 n) [] → (∀ W, Below base W w → Below base W w') → base ≤ w'.heap.size → wpList Tryz.prog ops Q rest (a.put o.dst (.slice (some ⟨w.heap.size, 0, none⟩) 0 n)) w') :
    wpList Tryz.prog ops Q (o :: rest) a w := by
  obtain ⟨i0, hi, hz0, hz1, hz2⟩ := info_parts Tryz.infoU8
  refine wpList_make_own w hgd l c 22 ho base 5 i0 (.int .u8 0) 1 Tryz.underlying22 hi hz0 hz1 .i64 .i64 C n hl hc hC (by rw [hz2]; omega) (by unfold maxLen; omega) hbase ?_
  intro w' h1 hg
  refine h w' h1 (fun W hW => hW.grown hg hbase (fun j hj => by cases hj)) ?_
  have := hg.size; omega

/-- 'make([]byte, n)'. -/
theorem make_bytes_full {ops : Array Oper} {rest : List Oper} {o : Oper} {a : Act} {Q : Exit → Act → World → Prop} (w : World) (base : Nat) (hbase : base ≤ w.heap.size) (n : Nat) {C : Int} (hC : C = (n : Int)) (hn : n ≤ 140737488355328)
    (hgd : o.guard = none) {l c : Operand} (ho : o.op = .makeSlice 22 l c) (hl : a.eval l = .int .i64 C) (hc : a.eval c = .int .i64 C)
    (h : ∀ w', OwnB w' base (.slice (some ⟨w.heap.size, 0, none⟩) n n) (List.replicate n 0) → (∀ W, Below base W w → Below base W w') → w.heap.size < w'.heap.size → wpList Tryz.prog ops Q rest (a.put o.dst (.slice (some ⟨w.heap.size, 0, none⟩) n n)) w') :
    wpList Tryz.prog ops Q (o :: rest) a w := by
  obtain ⟨i0, hi, hz0, hz1, hz2⟩ := info_parts Tryz.infoU8
  refine wpList_make_full w hgd l c 22 ho base 5 i0 (.int .u8 0) 1 Tryz.underlying22 hi hz0 hz1 .i64 .i64 C C n hl hc hC hC (by rw [hz2]; omega) (by unfold maxLen; omega) hbase ?_
  intro w' h1 hg
  refine h w' ?_ (fun W hW => hW.grown hg hbase (fun j hj => by cases hj)) (h1.lt w.heap.size rfl).2
  unfold OwnB
  rw [Nat.mul_one, madeU8] at h1
  simpa using h1

/-- A string of one byte, out of a slice that was just made. -/
theorem conv_byte (w : World) (b : UInt8) {u : Int} (hu : (b.toNat : Int) = u) : (convert 22 9 (.slice (some ⟨w.heap.size, 0, none⟩) 1 1)).run Tryz.prog (w.alloc (.cells #[.int .u8 u] 5)) = .ok (.string ⟨#[b]⟩) (w.alloc (.cells #[.int .u8 u] 5)) := by
  subst hu
  have h := convB (ownB_lit w w.heap.size (Nat.le_refl _) [b] (by simp [maxLen]))
  simp only [bytesV, List.map_cons, List.map_nil, byteV] at h
  exact h
theorem str_app (a b : ByteArray) : (a ++ b).data.toList = a.data.toList ++ b.data.toList := by
  cases a; cases b
  rw [ByteArray.mk_append_mk]
theorem str_app_size (b : UInt8) (s : ByteArray) : ((⟨#[b]⟩ : ByteArray) ++ s).size = s.size + 1 := by
  rw [ByteArray.size_append]
  have : (⟨#[b]⟩ : ByteArray).size = 1 := rfl
  omega
theorem str_of {s : ByteArray} {l : List UInt8} (h : s.data.toList = l) : s = ⟨l.toArray⟩ := by
  subst h; rfl
theorem ret_string {a b : ByteArray} (h : a = b) : Ending.returned (.string a) = .returned (.string b) := by rw [h]
end Go.Proofs.YtfjeghalkmkgoaaGreatDoor
