/-
  The draws of the model: a cursor over bytes that came in. What each call returns lies in its range; only the cursor's own block is written.
  Plain facts on varints, as lists of bytes: which prefix of a text is a number's own varint.
  The draws of chapter 1: what DrawEncodeVarint, DrawEncodeHex and DrawEncodeFixed return.
-/
import Derived.BigQuiet
import Derived.Deep.QuietTactic
import Derived.Maps.AppendAt
import Derived.Test.YtcmnkhblnlmfpaaGreatDoorFW01
import Derived.WalkKit
namespace Go.Proofs.YtcmnkhblnlmfpaaGreatDoor
open Go.RowKit

/-- Bytes that came in, below block B. -/
def CodeB (B : Nat) (w : World) (cv : Value) (len : Nat) : Prop :=
  ((∃ a cap, cv = .slice a 0 cap) ∧ len = 0) ∨ ∃ (b off cap : Nat), cv = .slice (some ⟨b, off, none⟩) len cap ∧ b < B ∧ ∀ j, j < len → ∃ u : UInt8, w.cell? ⟨b, off + j, none⟩ = some (.int .u8 (u.toNat : Int))
theorem CodeB.below {B : Nat} {w w' : World} {cv : Value} {len : Nat} (h : CodeB B w cv len) (hb : Below B w w') : CodeB B w' cv len := by
  rcases h with h | ⟨b, off, cap, h1, h2, h3⟩
  · exact Or.inl h
  · refine Or.inr ⟨b, off, cap, h1, h2, fun j hj => ?_⟩
    obtain ⟨u, hu⟩ := h3 j hj
    exact ⟨u, (hb.cell (p := ⟨b, off + j, none⟩) h2).trans hu⟩

/-- A cursor of the call's own at block C. -/
def Cur (B C : Nat) (w : World) (cv : Value) (len : Nat) : Prop :=
  B ≤ C ∧ ∃ (i : Nat) (h : Int), i ≤ len ∧ w.heap[C]? = some (.cells #[cv, .int .i64 i, .int .i64 h] 109 (0, 0))
theorem Cur.grown {B C : Nat} {w w' : World} {cv : Value} {len : Nat} {row : Option Nat} (h : Cur B C w cv len) (hg : w.grownBy w' row) (hne : some C ≠ row) : Cur B C w' cv len := by
  obtain ⟨hB, i, x, hi, hc⟩ := h
  have hlt : C < w.heap.size := (Array.getElem?_eq_some_iff.1 hc).1
  exact ⟨hB, i, x, hi, (hg.block C hlt hne).trans hc⟩

theorem set_block {w : World} {C : Nat} {cs : Array Value} {t : TypeId} (hC : w.heap[C]? = some (.cells cs t (0, 0))) (j : Nat) (v : Value) : (w.setCell ⟨C, j, none⟩ v).heap[C]? = some (.cells (cs.setIfInBounds j v) t (0, 0)) := by
  unfold World.setCell
  simp only [Array.getElem?_modify, if_pos, hC, Option.map_some, Option.isSome_none, Bool.false_eq_true, if_false]
theorem set_grown {a w : World} {C : Nat} (h : a.grownBy w (some C)) (j : Nat) (v : Value) : a.grownBy (w.setCell ⟨C, j, none⟩ v) (some C) := by
  refine ⟨h.os, h.tape, h.output, ?_, ?_⟩
  · rw [World.size_setCell]; exact h.size
  · intro k hk hne
    have : k ≠ C := fun e => hne (by rw [e])
    rw [← h.block k hk hne]
    unfold World.setCell
    simp [Array.getElem?_modify, this.symm]
theorem drew_grown {a w : World} {row : Option Nat} (h : a.grownBy w row) (n : Nat) : a.grownBy (w.drewN n) row := ⟨h.os, h.tape, h.output, h.size, h.block⟩
theorem and255 (x : Int) : ∃ n : Nat, n ≤ 255 ∧ bits .and .i64 x 255 = (n : Int) := by
  refine ⟨(BitVec.ofInt 64 x &&& BitVec.ofInt 64 255).toNat, ?_, ?_⟩
  · rw [BitVec.toNat_and]
    have : (BitVec.ofInt 64 255).toNat = 255 := by decide
    rw [this]
    exact Nat.and_le_right
  · show IntKind.i64.wrap ((BitVec.ofInt 64 x &&& BitVec.ofInt 64 255).toNat : Int) = _
    have h : (BitVec.ofInt 64 x &&& BitVec.ofInt 64 255).toNat ≤ 255 := by
      rw [BitVec.toNat_and]
      have : (BitVec.ofInt 64 255).toNat = 255 := by decide
      rw [this]
      exact Nat.and_le_right
    exact IntWalk.i64_in _ ⟨by omega, by omega⟩

def nextH (h : Int) : Int := wrap64 (wrap64 (h * 6364136223846793005) + 1442695040888963407)

set_option maxHeartbeats 1000000 in
set_option maxRecDepth 100000 in
theorem byte_end (B C : Nat) (w : World) (a : Option Addr) (cap len i : Nat) (h : Int) (hi : ¬ i < len) (hl : len ≤ 1048576) (hi2 : i ≤ len)
    (hB : B ≤ C) (hC : w.heap[C]? = some (.cells #[.slice a len cap, .int .i64 i, .int .i64 h] 109 (0, 0))) :
    Calls Tryz.prog 104 #[.pointer (some ⟨C, 0, none⟩)] w fun e w' => (∃ n : Nat, n ≤ 255 ∧ e = .returned (.int .i64 n)) ∧ Cur B C w' (.slice a len cap) len ∧ w.grownBy w' (some C) := by
  have c2 : w.cell? ⟨C, 2, none⟩ = some (.int .i64 h) := cell_of_row w C 2 _ _ _ hC
  have f2 : w.frozen? ⟨C, 2, none⟩ = false := frozen_of_row w C 2 _ _ hC
  have s0 : ∀ v, (w.setCell ⟨C, 2, none⟩ v).cell? ⟨C, 0, none⟩ = some (.slice a len cap) := fun v => cell_of_row _ C 0 _ _ _ (set_block hC 2 v)
  have s1 : ∀ v, (w.setCell ⟨C, 2, none⟩ v).cell? ⟨C, 1, none⟩ = some (.int .i64 i) := fun v => cell_of_row _ C 1 _ _ _ (set_block hC 2 v)
  have s2 : ∀ v, (w.setCell ⟨C, 2, none⟩ v).cell? ⟨C, 2, none⟩ = some v := fun v => cell_of_row _ C 2 _ _ _ (set_block hC 2 v)
  have HC := Lib.hid hC; clear hC
  go_enter Tryz.func104, Tryz.ntmps104
  go_wp2_with fail
  go_quiet (fail)
  go_wp2_with fail
  obtain ⟨n, hn, hne⟩ := and255 (bits BinOp.xor IntKind.i64 (wrap64 (wrap64 (h * 6364136223846793005) + 1442695040888963407) / 8589934592) (wrap64 (wrap64 (h * 6364136223846793005) + 1442695040888963407) / 35184372088832))
  rw [hne]
  clear hne
  go_quiet (fail)
  go_wp2_with fail
  go_ret
  refine ⟨⟨n, hn, rfl⟩, ⟨hB, i, nextH h, hi2, ?_⟩, ?_⟩
  · exact set_block HC.out 2 (.int .i64 (nextH h))
  · exact drew_grown (drew_grown (set_grown (World.grownBy.refl w _) 2 _) _) _

set_option maxHeartbeats 1000000 in
set_option maxRecDepth 100000 in
theorem byte_more (B C : Nat) (w : World) (b off cap len i : Nat) (h : Int) (u : UInt8) (hi : i < len) (hl : len ≤ 1048576) (hbB : b < B)
    (hB : B ≤ C) (hC : w.heap[C]? = some (.cells #[.slice (some ⟨b, off, none⟩) len cap, .int .i64 i, .int .i64 h] 109 (0, 0)))
    (hu : w.cell? ⟨b, off + i, none⟩ = some (.int .u8 (u.toNat : Int))) :
    Calls Tryz.prog 104 #[.pointer (some ⟨C, 0, none⟩)] w fun e w' => (∃ n : Nat, n ≤ 255 ∧ e = .returned (.int .i64 n)) ∧ Cur B C w' (.slice (some ⟨b, off, none⟩) len cap) len ∧ w.grownBy w' (some C) := by
  have hne : C ≠ b := by omega
  have c2 : w.cell? ⟨C, 2, none⟩ = some (.int .i64 h) := cell_of_row w C 2 _ _ _ hC
  have f2 : w.frozen? ⟨C, 2, none⟩ = false := frozen_of_row w C 2 _ _ hC
  have s0 : ∀ v, (w.setCell ⟨C, 2, none⟩ v).cell? ⟨C, 0, none⟩ = some (.slice (some ⟨b, off, none⟩) len cap) := fun v => cell_of_row _ C 0 _ _ _ (set_block hC 2 v)
  have s1 : ∀ v, (w.setCell ⟨C, 2, none⟩ v).cell? ⟨C, 1, none⟩ = some (.int .i64 i) := fun v => cell_of_row _ C 1 _ _ _ (set_block hC 2 v)
  have s2 : ∀ v, (w.setCell ⟨C, 2, none⟩ v).cell? ⟨C, 2, none⟩ = some v := fun v => cell_of_row _ C 2 _ _ _ (set_block hC 2 v)
  have f1 : ∀ v, (w.setCell ⟨C, 2, none⟩ v).frozen? ⟨C, 1, none⟩ = false := fun v => frozen_of_row _ C 1 _ _ (set_block hC 2 v)
  have sb : ∀ v, (w.setCell ⟨C, 2, none⟩ v).cell? ⟨b, off + i, none⟩ = some (.int .u8 (u.toNat : Int)) := fun v => by
    have hg := set_grown (World.grownBy.refl w (some C)) 2 v
    exact hg.cell hu (by simp; omega)
  have hu255 : (u.toNat : Int) ≤ 255 := by have := u.toNat_lt; omega
  have HC := Lib.hid hC; clear hC hu hne
  go_enter Tryz.func104, Tryz.ntmps104
  go_wp2_with fail
  go_quiet (fail)
  go_wp2_with fail
  obtain ⟨n, hn, hne⟩ := and255 (bits BinOp.xor IntKind.i64 (wrap64 (wrap64 (h * 6364136223846793005) + 1442695040888963407) / 8589934592) (wrap64 (wrap64 (h * 6364136223846793005) + 1442695040888963407) / 35184372088832))
  rw [hne]
  clear hne
  go_quiet (fail)
  go_wp2_with fail
  go_quiet (fail)
  go_wp2_with fail
  obtain ⟨m, hm, hme⟩ := and255 ((n : Int) + (u.toNat : Int))
  rw [hme]
  go_ret
  refine ⟨⟨m, hm, rfl⟩, ⟨hB, i + 1, nextH h, by omega, ?_⟩, ?_⟩
  · exact set_block (set_block HC.out 2 (.int .i64 (nextH h))) 1 (.int .i64 ((i + 1 : Nat) : Int))
  · repeat (first | exact World.grownBy.refl _ _ | refine set_grown ?_ _ _ | refine drew_grown ?_ _)

/-- The cursor and the code that it reads. -/
def Dr (B C : Nat) (cv : Value) (len : Nat) (w : World) : Prop := len ≤ 1048576 ∧ CodeB B w cv len ∧ Cur B C w cv len
theorem CodeB.grown {B C : Nat} {w w' : World} {cv : Value} {len : Nat} (h : CodeB B w cv len) (hB : B ≤ C) (hg : w.grownBy w' (some C)) : CodeB B w' cv len := by
  rcases h with h | ⟨b, off, cap, h1, h2, h3⟩
  · exact Or.inl h
  · refine Or.inr ⟨b, off, cap, h1, h2, fun j hj => ?_⟩
    obtain ⟨u, hu⟩ := h3 j hj
    exact ⟨u, hg.cell hu (by simp; omega)⟩
/-- What a draw leaves: the cursor stands, only its block was written. -/
def DrTo (B C : Nat) (cv : Value) (len : Nat) (w w' : World) : Prop := Dr B C cv len w' ∧ w.grownBy w' (some C)
theorem DrTo.trans {B C : Nat} {cv : Value} {len : Nat} {w w1 w2 : World} (h : DrTo B C cv len w w1) (k : DrTo B C cv len w1 w2) : DrTo B C cv len w w2 := ⟨k.1, h.2.trans k.2⟩

/-- One byte of the draw. -/
theorem byte_any (B C : Nat) (w : World) (cv : Value) (len : Nat) (hd : Dr B C cv len w) :
    Calls Tryz.prog 104 #[.pointer (some ⟨C, 0, none⟩)] w fun e w' => ∃ n : Nat, n ≤ 255 ∧ e = .returned (.int .i64 n) ∧ DrTo B C cv len w w' := by
  obtain ⟨hl, hcode, hcur⟩ := hd
  have hcode0 := hcode
  obtain ⟨hB, i, h, hi, hC⟩ := hcur
  have key : Calls Tryz.prog 104 #[.pointer (some ⟨C, 0, none⟩)] w fun e w' => (∃ n : Nat, n ≤ 255 ∧ e = .returned (.int .i64 n)) ∧ Cur B C w' cv len ∧ w.grownBy w' (some C) := by
    rcases hcode with ⟨⟨a, cap, rfl⟩, rfl⟩ | ⟨b, off, cap, rfl, hb, hc⟩
    · exact byte_end B C w a cap 0 i h (by omega) hl hi hB hC
    · by_cases hlt : i < len
      · obtain ⟨u, hu⟩ := hc i hlt
        exact byte_more B C w b off cap len i h u hlt hl hb hB hC hu
      · exact byte_end B C w _ cap len i h hlt hl hi hB hC
  exact key.mono fun e w' ⟨⟨n, hn, he⟩, h1, h2⟩ => ⟨n, hn, he, ⟨hl, hcode0.grown hB h2, h1⟩, h2⟩

set_option maxHeartbeats 400000 in
theorem below_small (B C : Nat) (w : World) (cv : Value) (len : Nat) (n : Nat) (h1 : 1 ≤ n) (h2 : n ≤ 256) (hd : Dr B C cv len w) :
    Calls Tryz.prog 84 #[.pointer (some ⟨C, 0, none⟩), .int .i64 n] w fun e w' => ∃ r : Nat, r < n ∧ e = .returned (.int .i64 r) ∧ DrTo B C cv len w w' := by
  have HD := Lib.hid hd; clear hd
  go_enter Tryz.func84, Tryz.ntmps84
  go_wp2_with fail
  refine (byte_any B C _ cv len HD.out).mono ?_
  rintro e w1 ⟨x, hx, rfl, hd1⟩
  have HD1 := Lib.hid hd1; clear hd1
  go_wp2_with fail
  go_ret
  exact ⟨x % n, Nat.mod_lt _ (by omega), by simp, HD1.out⟩

set_option maxHeartbeats 400000 in
theorem below_large (B C : Nat) (w : World) (cv : Value) (len : Nat) (n : Nat) (h1 : 256 < n) (h2 : n ≤ 4294967296) (hd : Dr B C cv len w) :
    Calls Tryz.prog 84 #[.pointer (some ⟨C, 0, none⟩), .int .i64 n] w fun e w' => ∃ r : Nat, r < n ∧ e = .returned (.int .i64 r) ∧ DrTo B C cv len w w' := by
  have HD := Lib.hid hd; clear hd
  go_enter Tryz.func84, Tryz.ntmps84
  go_wp2_with fail
  refine (byte_any B C _ cv len HD.out).mono ?_
  rintro e w1 ⟨x, hx, rfl, hd1⟩
  have HD1 := Lib.hid hd1; clear hd1
  go_wp2_with fail
  refine (byte_any B C _ cv len HD1.out.1).mono ?_
  rintro e w2 ⟨y, hy, rfl, hd2⟩
  have HD2 := Lib.hid (HD1.out.trans hd2); clear hd2
  go_wp2_with fail
  refine (byte_any B C _ cv len HD2.out.1).mono ?_
  rintro e w3 ⟨z, hz, rfl, hd3⟩
  have HD3 := Lib.hid (HD2.out.trans hd3); clear hd3
  go_wp2_with fail
  refine (byte_any B C _ cv len HD3.out.1).mono ?_
  rintro e w4 ⟨u, hu, rfl, hd4⟩
  have HD4 := Lib.hid (HD3.out.trans hd4); clear hd4
  go_wp2_with fail
  go_ret
  exact ⟨(x * 16777216 + y * 65536 + z * 256 + u) % n, Nat.mod_lt _ (by omega), by simp, HD4.out⟩

theorem below_any (B C : Nat) (w : World) (cv : Value) (len : Nat) (n : Nat) (h1 : 1 ≤ n) (h2 : n ≤ 4294967296) (hd : Dr B C cv len w) :
    Calls Tryz.prog 84 #[.pointer (some ⟨C, 0, none⟩), .int .i64 n] w fun e w' => ∃ r : Nat, r < n ∧ e = .returned (.int .i64 r) ∧ DrTo B C cv len w w' := by
  rcases Nat.lt_or_ge 256 n with h | h
  · exact below_large B C w cv len n h h2 hd
  · exact below_small B C w cv len n h1 h hd

/-- An int that a machine holds. -/
def isI64 (v : Int) : Prop := -9223372036854775808 ≤ v ∧ v ≤ 9223372036854775807

theorem Dr.alloc {B C : Nat} {cv : Value} {len : Nat} {w : World} (h : Dr B C cv len w) (o : Obj) : Dr B C cv len (w.alloc o) := by
  obtain ⟨hl, hc, hB, i, x, hi, hC⟩ := h
  have hlt : C < w.heap.size := (Array.getElem?_eq_some_iff.1 hC).1
  have hg : w.grownBy (w.alloc o) none := World.grownBy_alloc w o none
  refine ⟨hl, ?_, hB, i, x, hi, (hg.block C hlt (by simp)).trans hC⟩
  rcases hc with h | ⟨b, off, cap, h1, h2, h3⟩
  · exact Or.inl h
  · refine Or.inr ⟨b, off, cap, h1, h2, fun j hj => ?_⟩
    obtain ⟨u, hu⟩ := h3 j hj
    exact ⟨u, hg.cell hu (by simp)⟩
theorem Dr.lt {B C : Nat} {cv : Value} {len : Nat} {w : World} (h : Dr B C cv len w) : C < w.heap.size := by
  obtain ⟨hl, hc, hB, i, x, hi, hC⟩ := h
  exact (Array.getElem?_eq_some_iff.1 hC).1
theorem Dr.below {B C base : Nat} {cv : Value} {len : Nat} {w w' : World} (h : Dr B C cv len w) (hb : Below base w w') (hC : C < base) : Dr B C cv len w' := by
  obtain ⟨hl, hc, hB, i, x, hi, hCC⟩ := h
  refine ⟨hl, ?_, hB, i, x, hi, (hb.block C hC).trans hCC⟩
  rcases hc with h | ⟨b, off, cap, h1, h2, h3⟩
  · exact Or.inl h
  · refine Or.inr ⟨b, off, cap, h1, h2, fun j hj => ?_⟩
    obtain ⟨u, hu⟩ := h3 j hj
    exact ⟨u, (hb.cell (p := ⟨b, off + j, none⟩) (by show b < base; omega)).trans hu⟩

set_option maxHeartbeats 400000 in
theorem pick_any (B C : Nat) (w : World) (cv : Value) (len : Nat) (G : Nat) (vals : List Int) (m : Nat) (hm : vals.length = m) (h1 : 1 ≤ m) (h2 : m ≤ 1000) (hv : ∀ v, v ∈ vals → isI64 v)
    (hG : w.heap[G]? = some (.cells (vals.map (Value.int .i64)).toArray 3 (0, 0))) (hne : G ≠ C) (hd : Dr B C cv len w) :
    Calls Tryz.prog 97 #[.pointer (some ⟨C, 0, none⟩), .slice (some ⟨G, 0, none⟩) m m] w fun e w' => ∃ v : Int, isI64 v ∧ e = .returned (.int .i64 v) ∧ DrTo B C cv len w w' := by
  have HD := Lib.hid hd; clear hd
  have HG := Lib.hid hG; clear hG
  go_enter Tryz.func97, Tryz.ntmps97
  go_wp2_with fail
  refine (below_any B C _ cv len m h1 (by omega) HD.out).mono ?_
  rintro e w1 ⟨r, hr, rfl, hd1⟩
  have hcell : w1.cell? ⟨G, r, none⟩ = some (.int .i64 (vals[r]'(by omega))) := by
    have : w.cell? ⟨G, r, none⟩ = some (.int .i64 (vals[r]'(by omega))) := by
      rw [cell_of_row w G r _ _ _ HG.out]
      simp [show r < vals.length by omega]
    exact hd1.2.cell this (by simp; omega)
  have hin := hv _ (List.getElem_mem (show r < vals.length by omega))
  have HIN := Lib.hid hin; clear hin
  have HD1 := Lib.hid hd1; clear hd1
  generalize vals[r]'(by omega) = v at *
  go_wp2_with fail
  go_ret
  exact ⟨v, HIN.out, rfl, HD1.out⟩
end Go.Proofs.YtcmnkhblnlmfpaaGreatDoor
namespace Go.Proofs.YtcmnkhblnlmfpaaGreatDoor

def vb (n : Nat) : List UInt8 := if n < 128 then [UInt8.ofNat n] else UInt8.ofNat (128 + n % 128) :: vb (n / 128)
  decreasing_by omega
theorem vb_small {n : Nat} (h : n < 128) : vb n = [UInt8.ofNat n] := by rw [vb, if_pos h]
theorem vb_big {n : Nat} (h : ¬ n < 128) : vb n = UInt8.ofNat (128 + n % 128) :: vb (n / 128) := by rw [vb, if_neg h]
theorem vb_len (k : Nat) : ∀ n, n < 128 ^ (k + 1) → (vb n).length ≤ k + 1 := by
  induction k with
  | zero => intro n h; rw [vb_small (by simpa using h)]; simp
  | succ k ih =>
    intro n h
    by_cases h' : n < 128
    · rw [vb_small h']; simp
    · rw [vb_big h']
      have := ih (n / 128) (by rw [Nat.pow_succ] at h; omega)
      simp only [List.length_cons]; omega
theorem vb_len7 {n : Nat} (h : n ≤ 562949953421311) : (vb n).length ≤ 7 := vb_len 6 n (by
  have : 128 ^ (6 + 1) = 562949953421312 := by decide
  omega)
theorem vb_pos (n : Nat) : 1 ≤ (vb n).length := by rw [vb]; split <;> simp

theorem u8_nat (n : Nat) (h : n < 256) : ((UInt8.ofNat n).toNat : Int) = n := by
  rw [UInt8.toNat_ofNat']; omega
theorem u8_natN (n : Nat) (h : n < 256) : (UInt8.ofNat n).toNat = n := by
  rw [UInt8.toNat_ofNat']; omega
theorem u8_ext {a b : UInt8} : a = b ↔ a.toNat = b.toNat := ⟨fun h => by rw [h], UInt8.toNat.inj⟩

def vval : List UInt8 → Nat
  | [] => 0
  | b :: r => b.toNat % 128 + 128 * vval r

theorem vval_lt : ∀ l, vval l < 128 ^ l.length
  | [] => by simp [vval]
  | b :: r => by
    have := vval_lt r
    simp only [vval, List.length_cons, Nat.pow_succ]
    omega

theorem vval_zero : ∀ (l : List UInt8), vval l = 0 → ∀ i, i < l.length → (l.getD i 0).toNat % 128 = 0
  | [], _, i, hi => by simp at hi
  | b :: r, h, 0, _ => by simp only [vval] at h; simp; omega
  | b :: r, h, i + 1, hi => by
    simp only [vval] at h
    have := vval_zero r (by omega) i (by simpa using hi)
    simpa using this

theorem vval_snoc : ∀ (l : List UInt8) (c : UInt8), vval (l ++ [c]) = vval l + 128 ^ l.length * (c.toNat % 128)
  | [], c => by simp [vval]
  | b :: r, c => by
    have := vval_snoc r c
    simp only [List.cons_append, vval, this, List.length_cons, Nat.pow_succ]
    rw [Nat.mul_comm (128 ^ r.length) 128, Nat.mul_assoc]
    omega

/-- The first k bytes of l are a number's own varint. -/
def Good (l : List UInt8) (k : Nat) : Prop :=
  1 ≤ k ∧ k ≤ l.length ∧ (∀ i, i + 1 < k → 128 ≤ (l.getD i 0).toNat) ∧ (l.getD (k - 1) 0).toNat < 128 ∧ (k = 1 ∨ (l.getD (k - 1) 0).toNat ≠ 0)

theorem good_one {l : List UInt8} {k k' : Nat} (h : Good l k) (h' : Good l k') : k = k' := by
  obtain ⟨a1, a2, a3, a4, _⟩ := h
  obtain ⟨b1, b2, b3, b4, _⟩ := h'
  rcases Nat.lt_trichotomy k k' with h | h | h
  · have := b3 (k - 1) (by omega); omega
  · exact h
  · have := a3 (k' - 1) (by omega); omega

theorem vb_good : ∀ (k : Nat) (l : List UInt8), 1 ≤ k → k ≤ l.length → (vb (vval (l.take k)) = l.take k ↔ Good l k)
  | 0, _, h, _ => by omega
  | 1, [], _, h => by simp at h
  | 1, b :: r, _, _ => by
    have hb := b.toNat_lt
    simp only [List.take_succ_cons, List.take_zero, vval]
    rw [vb_small (by omega)]
    simp only [List.cons.injEq, and_true, u8_ext, u8_natN _ (show b.toNat % 128 + 128 * 0 < 256 by omega)]
    constructor
    · intro h
      refine ⟨Nat.le_refl _, by simp, fun i hi => by omega, ?_, Or.inl rfl⟩
      simp; omega
    · rintro ⟨_, _, _, h, _⟩
      simp at h; omega
  | k + 2, [], _, h => by simp at h
  | k + 2, b :: r, _, h => by
    have hb := b.toNat_lt
    have hl : k + 1 ≤ r.length := by simpa using h
    have ih := vb_good (k + 1) r (by omega) hl
    have htl : (r.take (k + 1)).length = k + 1 := by rw [List.length_take]; omega
    simp only [List.take_succ_cons, vval]
    by_cases hv : vval (r.take (k + 1)) = 0
    · constructor
      · intro e
        rw [hv, vb_small (by omega)] at e
        have := congrArg List.length e
        simp only [List.length_cons, List.length_nil, htl] at this
        omega
      · rintro ⟨_, _, _, h4, h5⟩
        have hz := vval_zero _ hv k (by omega)
        have e1 : (r.take (k + 1)).getD k 0 = r.getD k 0 := by
          simp [List.getD, List.getElem?_take_of_lt (show k < k + 1 by omega)]
        rw [e1] at hz
        simp at h4 h5
        simp at hz
        omega
    · rw [vb_big (by omega), show (b.toNat % 128 + 128 * vval (r.take (k + 1))) / 128 = vval (r.take (k + 1)) by omega,
        show 128 + (b.toNat % 128 + 128 * vval (r.take (k + 1))) % 128 = 128 + b.toNat % 128 by omega]
      simp only [List.cons.injEq, u8_ext, u8_natN _ (show 128 + b.toNat % 128 < 256 by omega), ih]
      constructor
      · rintro ⟨h1, g1, g2, g3, g4, g5⟩
        refine ⟨by omega, by simpa using h, ?_, by simpa using g4, Or.inr ?_⟩
        · intro i hi
          match i, hi with
          | 0, _ => simp; omega
          | i + 1, hi => simpa using g3 i (by omega)
        · simp only [Nat.add_sub_cancel] at g4 g5 ⊢
          have e : (b :: r).getD (k + 1) 0 = r.getD k 0 := by simp
          rw [show k + 2 - 1 = k + 1 by omega, e]
          rcases g5 with g5 | g5
          · have hk : k = 0 := by omega
            subst hk
            match r, hl, hv with
            | c :: r', _, hv =>
              simp [vval] at hv
              simp
              intro hc
              rw [hc] at hv
              simp at hv
          · exact g5
      · rintro ⟨_, _, g3, g4, g5⟩
        have h0 := g3 0 (by omega)
        simp only [List.getD_cons_zero] at h0
        refine ⟨by omega, by omega, hl, ?_, by simpa using g4, Or.inr ?_⟩
        · intro i hi
          simpa using g3 (i + 1) (by omega)
        · rcases g5 with g5 | g5
          · omega
          · simpa using g5
end Go.Proofs.YtcmnkhblnlmfpaaGreatDoor
namespace Go.Proofs.YtcmnkhblnlmfpaaGreatDoor
open Go.RowKit

def numVals : List Int := [-1, 0, 127, 128, 255, 256, 16383, 16384, 65535, 65536, 562949953421311, 562949953421312, 999999999, 1000000000, -999999999, 9223372036854775807, -9223372036854775808]
theorem numVals_in : ∀ v, v ∈ numVals → isI64 v := by unfold numVals isI64; decide

theorem new_cur (B : Nat) (w : World) (cv : Value) (len : Nat) (h : Int) (hl : len ≤ 1048576) (hB : B ≤ w.heap.size) (hcode : CodeB B w cv len) : Dr B w.heap.size cv len (w.alloc (.cells #[cv, .int .i64 0, .int .i64 h] 109)) := by
  refine ⟨hl, ?_, hB, 0, h, Nat.zero_le _, (MapKept.heap_alloc _ _).1⟩
  rcases hcode with h | ⟨b, off, cap, h1, h2, h3⟩
  · exact Or.inl h
  · refine Or.inr ⟨b, off, cap, h1, h2, fun j hj => ?_⟩
    obtain ⟨u, hu⟩ := h3 j hj
    exact ⟨u, (World.grownBy_alloc w _ none).cell hu (by simp)⟩

set_option maxHeartbeats 1000000 in
set_option maxRecDepth 100000 in
theorem new_nil (w : World) (a : Option Addr) (cap : Nat) :
    Calls Tryz.prog 65 #[.slice a 0 cap] w fun e w' => ∃ h : Int, e = .returned (.pointer (some ⟨w.heap.size, 0, none⟩)) ∧ w' = w.alloc (.cells #[.slice a 0 cap, .int .i64 0, .int .i64 h] 109) := by
  go_enter Tryz.func65, Tryz.ntmps65
  go_wp2_with fail
  refine wp_loop_rounds 1 ?_
  rw [rounds_succ]
  go_wp2_with fail
  go_ret
  exact ⟨_, rfl, rfl⟩

set_option maxHeartbeats 1000000 in
set_option maxRecDepth 100000 in
theorem new_some (w : World) (b off cap len : Nat) (hl : len ≤ 1048576) (hc : ∀ j, j < len → ∃ u : UInt8, w.cell? ⟨b, off + j, none⟩ = some (.int .u8 (u.toNat : Int))) :
    Calls Tryz.prog 65 #[.slice (some ⟨b, off, none⟩) len cap] w fun e w' => ∃ h : Int, e = .returned (.pointer (some ⟨w.heap.size, 0, none⟩)) ∧ w' = w.alloc (.cells #[.slice (some ⟨b, off, none⟩) len cap, .int .i64 0, .int .i64 h] 109) := by
  have HC := Lib.hid hc; clear hc
  go_enter Tryz.func65, Tryz.ntmps65
  go_wp2_with fail
  go_loop [3, 4] (fun h i => ∃ (k : Nat) (x : Int), k ≤ len ∧ k ≤ 4000 ∧ i = .int .i64 k ∧ h = .int .i64 x) (fun _ i => 4000 - (intOf i).toNat)
  case atStart => exact ⟨0, _, Nat.zero_le _, Nat.zero_le _, rfl, rfl⟩
  case round =>
    obtain ⟨k, x, hk, hk4, rfl, rfl⟩ := hrel
    by_cases hlt : k < len ∧ k < 4000
    · obtain ⟨h1, h2⟩ := hlt
      obtain ⟨u, hu⟩ := HC.out k h1
      go_wp2_with fail
      go_round
      case rel => exact ⟨k + 1, _, by omega, by omega, by go_num, rfl⟩
      case measure => simp [intOf]; omega
    · by_cases h1 : k < len
      · have h2 : 4000 ≤ k := by omega
        clear hlt
        go_wp2_with fail
        go_ret
        exact ⟨rfl, x, rfl⟩
      · clear hlt
        go_wp2_with fail
        go_ret
        exact ⟨rfl, x, rfl⟩

theorem new_any (B : Nat) (w : World) (cv : Value) (len : Nat) (hl : len ≤ 1048576) (hB : B ≤ w.heap.size) (hcode : CodeB B w cv len) :
    Calls Tryz.prog 65 #[cv] w fun e w' => e = .returned (.pointer (some ⟨w.heap.size, 0, none⟩)) ∧ Dr B w.heap.size cv len w' ∧ w.grownBy w' none := by
  have hcode0 := hcode
  rcases hcode with ⟨⟨a, cap, rfl⟩, rfl⟩ | ⟨b, off, cap, rfl, hb, hc⟩
  · exact (new_nil w a cap).mono fun e w' ⟨h, he, hw⟩ => ⟨he, by rw [hw]; exact new_cur B w _ _ h hl hB hcode0, by rw [hw]; exact World.grownBy_alloc _ _ _⟩
  · exact (new_some w b off cap len hl hc).mono fun e w' ⟨h, he, hw⟩ => ⟨he, by rw [hw]; exact new_cur B w _ _ h hl hB hcode0, by rw [hw]; exact World.grownBy_alloc _ _ _⟩

/-- Behind a draw with a new cursor: what was there stands. -/
theorem draw_below {B : Nat} {cv : Value} {len : Nat} {w w1 w2 : World} (h1 : w.grownBy w1 none) (h2 : DrTo B w.heap.size cv len w1 w2) : Below w.heap.size w w2 :=
  ((Below.refl _ _).grown h1 (Nat.le_refl _) (fun k hk => by cases hk)).grown h2.2 h1.size (fun k hk => by cases hk; exact Nat.le_refl _)

/-- What the text loop keeps. -/
def TRel (B C : Nat) (cv : Value) (len : Nat) (w wr : World) (v : Value) (xs : List UInt8) (k most : Nat) : Prop :=
  Dr B C cv len wr ∧ OwnB wr w.heap.size v xs ∧ w.grownBy wr (some C) ∧ w.heap.size ≤ wr.heap.size ∧ xs.length + k ≤ most ∧ C < w.heap.size
theorem trel_byte {B C : Nat} {cv : Value} {len : Nat} {w wr w1 : World} {v : Value} {xs : List UInt8} {k most : Nat} (h : TRel B C cv len w wr v xs k most) (hd : DrTo B C cv len wr w1) : TRel B C cv len w w1 v xs k most := by
  obtain ⟨h1, h2, h3, h4, h5, h6⟩ := h
  refine ⟨hd.1, ?_, h3.trans hd.2, Nat.le_trans h4 hd.2.size, h5, h6⟩
  refine World.ownsRow.kept h2 hd.2 ?_
  cases hv : v.ownBlock with
  | none => exact Or.inl rfl
  | some g =>
    have := World.ownsRow.lt h2 g hv
    refine Or.inr ?_
    simp; omega
theorem trel_app {B C : Nat} {cv : Value} {len : Nat} {w wr w1 : World} {v v' : Value} {xs : List UInt8} {k most : Nat} {b : UInt8} (hk : 0 < k) (h : TRel B C cv len w wr v xs k most) (hown : OwnB w1 w.heap.size v' (xs ++ [b]))
    (hb : ∀ W, Below w.heap.size W wr → Below w.heap.size W w1) (hz : w.heap.size ≤ w1.heap.size) : TRel B C cv len w w1 v' (xs ++ [b]) (k - 1) most := by
  obtain ⟨h1, h2, h3, h4, h5, h6⟩ := h
  have hbw := hb wr (Below.refl _ _)
  refine ⟨h1.below hbw h6, hown, ?_, hz, by simp only [List.length_append, List.length_singleton]; omega, h6⟩
  exact ⟨hbw.os.trans h3.os, hbw.tape.trans h3.tape, hbw.output.trans h3.output, hz, fun i hi hne => (hbw.block i hi).trans (h3.block i hi hne)⟩

set_option maxHeartbeats 1000000 in
set_option maxRecDepth 100000 in
theorem text_any (B C : Nat) (w : World) (cv : Value) (len : Nat) (most : Nat) (hmost : most ≤ 1000) (hd : Dr B C cv len w) :
    Calls Tryz.prog 103 #[.pointer (some ⟨C, 0, none⟩), .int .i64 most] w fun e w' => ∃ t : ByteArray, t.size ≤ most ∧ e = .returned (.string t) ∧ DrTo B C cv len w w' := by
  have HD := Lib.hid hd; clear hd
  go_enter Tryz.func103, Tryz.ntmps103
  go_wp2_with fail
  refine (below_any B C _ cv len 4 (by omega) (by omega) (HD.out.alloc _)).mono ?_
  rintro e w1 ⟨st, hst, rfl, hd1⟩
  have HD1 := Lib.hid hd1; clear hd1
  go_wp2_with fail
  rw [show ((most : Int) + 1) = ((most + 1 : Nat) : Int) by omega]
  refine (below_any B C _ cv len (most + 1) (by omega) (by omega) HD1.out.1).mono ?_
  rintro e w2 ⟨k0, hk0, rfl, hd2⟩
  have hstart : TRel B C cv len w w2 (.slice (some ⟨w.heap.size, 0, none⟩) 0 0) [] k0 most := by
    have h0 : TRel B C cv len w (w.alloc (.cells #[] 5)) (.slice (some ⟨w.heap.size, 0, none⟩) 0 0) [] k0 most :=
      ⟨HD.out.alloc _, ownB_empty w _ (Nat.le_refl _), World.grownBy_alloc _ _ _, by simp, by simp; omega, HD.out.lt⟩
    exact trel_byte h0 (HD1.out.trans hd2)
  have HS := Lib.hid hstart; clear hstart hd2
  go_wp2_with fail
  go_loopw [5, 7, 8] (fun v k _ wr => ∃ (n : Nat) (xs : List UInt8), k = .int .i64 n ∧ n ≤ most ∧ TRel B C cv len w wr v xs n most) (fun _ k _ _ => (intOf k).toNat)
  case atStart => exact ⟨k0, [], rfl, by omega, HS.out⟩
  case round =>
    obtain ⟨n, xs, rfl, hn, hr⟩ := hrel
    have HR := Lib.hid hr; clear hr
    by_cases hlt : 0 < n
    · by_cases e1 : st = 1
      · have q1 : ((st : Int) == 1) = true := by rw [beq_iff_eq]; omega
        have q2 : ((st : Int) == 2) = false := by rw [beq_eq_false_iff_ne]; omega
        clear e1
        go_wp2_with fail
        refine (byte_any B C _ cv len HR.out.1).mono ?_
        rintro e w3 ⟨x, hx, rfl, hd3⟩
        have hr3 := trel_byte HR.out hd3
        have HR3 := Lib.hid hr3; clear hr3 hd3
        have hl3 : xs.length ≤ 70368744177664 := by have := HR3.out.2.2.2.2.1; omega
        have hu : ((UInt8.ofNat (x % 2)).toNat : Int) = (x : Int) % 2 := by rw [u8_nat _ (by omega)]; omega
        have HU := Lib.hid hu; clear hu
        go_wp2_with (at_builtin; go_must (refine append_byte HR3.out.2.1 HR3.out.2.2.2.1 (UInt8.ofNat (x % 2)) HU.out rfl rfl rfl rfl hl3 ?_; intro v' w4 hown' hb hz))
        have HV := trel_app hlt HR3.out hown' hb hz
        go_roundw
        case rel => exact ⟨n - 1, _, by go_num, by omega, HV⟩
        case measure => simp [intOf]; omega
      by_cases e2 : st = 2
      · have q1 : ((st : Int) == 1) = false := by rw [beq_eq_false_iff_ne]; omega
        have q2 : ((st : Int) == 2) = true := by rw [beq_iff_eq]; omega
        clear e1 e2
        go_wp2_with fail
        refine (byte_any B C _ cv len HR.out.1).mono ?_
        rintro e w3 ⟨x, hx, rfl, hd3⟩
        have hr3 := trel_byte HR.out hd3
        have HR3 := Lib.hid hr3; clear hr3 hd3
        have hl3 : xs.length ≤ 70368744177664 := by have := HR3.out.2.2.2.2.1; omega
        have hu : ((UInt8.ofNat (97 + x % 4)).toNat : Int) = 97 + (x : Int) % 4 := by rw [u8_nat _ (by omega)]; omega
        have HU := Lib.hid hu; clear hu
        go_wp2_with (at_builtin; go_must (refine append_byte HR3.out.2.1 HR3.out.2.2.2.1 (UInt8.ofNat (97 + x % 4)) HU.out rfl rfl rfl rfl hl3 ?_; intro v' w4 hown' hb hz))
        have HV := trel_app hlt HR3.out hown' hb hz
        go_roundw
        case rel => exact ⟨n - 1, _, by go_num, by omega, HV⟩
        case measure => simp [intOf]; omega
      · have q1 : ((st : Int) == 1) = false := by rw [beq_eq_false_iff_ne]; omega
        have q2 : ((st : Int) == 2) = false := by rw [beq_eq_false_iff_ne]; omega
        clear e1 e2
        go_wp2_with fail
        refine (byte_any B C _ cv len HR.out.1).mono ?_
        rintro e w3 ⟨x, hx, rfl, hd3⟩
        have hr3 := trel_byte HR.out hd3
        have HR3 := Lib.hid hr3; clear hr3 hd3
        have hl3 : xs.length ≤ 70368744177664 := by have := HR3.out.2.2.2.2.1; omega
        have hu : ((UInt8.ofNat x).toNat : Int) = (x : Int) := u8_nat _ (by omega)
        have HU := Lib.hid hu; clear hu
        go_wp2_with (at_builtin; go_must (refine append_byte HR3.out.2.1 HR3.out.2.2.2.1 (UInt8.ofNat x) HU.out rfl rfl rfl rfl hl3 ?_; intro v' w4 hown' hb hz))
        have HV := trel_app hlt HR3.out hown' hb hz
        go_roundw
        case rel => exact ⟨n - 1, _, by go_num, by omega, HV⟩
        case measure => simp [intOf]; omega
    · obtain rfl : n = 0 := by omega
      have hcv := convB HR.out.2.1
      have hlen := HR.out.2.2.2.2.1
      go_wp2_with fail
      go_ret
      exact ⟨_, by simpa [ByteArray.size] using hlen, rfl, HR.out.1, HR.out.2.2.1⟩

end Go.Proofs.YtcmnkhblnlmfpaaGreatDoor
