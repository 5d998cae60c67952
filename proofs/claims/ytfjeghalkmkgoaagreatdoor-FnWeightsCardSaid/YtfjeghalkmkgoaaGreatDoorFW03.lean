/-
  The draws of chapter 1: what DrawEncodeVarint, DrawEncodeHex and DrawEncodeFixed return.
  Lists of ints and matrices that can be read: what a value reads as, below a block.
-/
import Derived.Test.YtfjeghalkmkgoaaGreatDoorFW02
import Derived.Test.YtfjeghalkmkgoaaGreatDoorRows
import Derived.ProofKit
import Derived.Test.YtfjeghalkmkgoaaGreatDoorFW01
namespace Go.Proofs.YtfjeghalkmkgoaaGreatDoor
open Go.RowKit

def numVals : List Int := [-1, 0, 127, 128, 255, 256, 16383, 16384, 65535, 65536, 562949953421311, 562949953421312, 999999999, 1000000000, -999999999, 9223372036854775807, -9223372036854775808]
theorem numVals_in : ∀ v, v ∈ numVals → isI64 v := by unfold numVals isI64; decide

theorem new_cur (B : Nat) (w : World) (cv : Value) (len : Nat) (h : Int) (hl : len ≤ 1048576) (hB : B ≤ w.heap.size) (hcode : CodeB B w cv len) : Dr B w.heap.size cv len (w.alloc (.cells #[cv, .int .i64 0, .int .i64 h] 79)) := by
  refine ⟨hl, ?_, hB, 0, h, Nat.zero_le _, (MapKept.heap_alloc _ _).1⟩
  rcases hcode with h | ⟨b, off, cap, h1, h2, h3⟩
  · exact Or.inl h
  · refine Or.inr ⟨b, off, cap, h1, h2, fun j hj => ?_⟩
    obtain ⟨u, hu⟩ := h3 j hj
    exact ⟨u, (World.grownBy_alloc w _ none).cell hu (by simp)⟩

set_option maxHeartbeats 1000000 in
set_option maxRecDepth 100000 in
theorem new_nil (w : World) (a : Option Addr) (cap : Nat) :
    Calls Tryz.prog 40 #[.slice a 0 cap] w fun e w' => ∃ h : Int, e = .returned (.pointer (some ⟨w.heap.size, 0, none⟩)) ∧ w' = w.alloc (.cells #[.slice a 0 cap, .int .i64 0, .int .i64 h] 79) := by
  go_enter Tryz.func40, Tryz.ntmps40
  go_wp2_with fail
  refine wp_loop_rounds 1 ?_
  rw [rounds_succ]
  go_wp2_with fail
  go_ret
  exact ⟨_, rfl, rfl⟩

set_option maxHeartbeats 1000000 in
set_option maxRecDepth 100000 in
theorem new_some (w : World) (b off cap len : Nat) (hl : len ≤ 1048576) (hc : ∀ j, j < len → ∃ u : UInt8, w.cell? ⟨b, off + j, none⟩ = some (.int .u8 (u.toNat : Int))) :
    Calls Tryz.prog 40 #[.slice (some ⟨b, off, none⟩) len cap] w fun e w' => ∃ h : Int, e = .returned (.pointer (some ⟨w.heap.size, 0, none⟩)) ∧ w' = w.alloc (.cells #[.slice (some ⟨b, off, none⟩) len cap, .int .i64 0, .int .i64 h] 79) := by
  have HC := Lib.hid hc; clear hc
  go_enter Tryz.func40, Tryz.ntmps40
  go_wp2_with fail
  go_loop [3, 4] (fun h i => ∃ (k : Nat) (x : Int), k ≤ len ∧ k ≤ 4000 ∧ i = .int .i64 k ∧ h = .int .i64 x) (fun _ i => 4000 - (intOf i).toNat)
  case atStart => exact ⟨0, _, Nat.zero_le _, Nat.zero_le _, rfl, rfl⟩
  case round =>
    obtain ⟨k, x, hk, hk4, rfl, rfl⟩ := hrel
    by_cases hlt : k < len ∧ k < 4000
    · obtain ⟨h1, h2⟩ := hlt
      obtain ⟨u, hu⟩ := HC.out k h1
      go_wp2_with fail
      go_round
      case rel => exact ⟨k + 1, _, by omega, by omega, by go_num, rfl⟩
      case measure => simp [intOf]; omega
    · by_cases h1 : k < len
      · have h2 : 4000 ≤ k := by omega
        clear hlt
        go_wp2_with fail
        go_ret
        exact ⟨rfl, x, rfl⟩
      · clear hlt
        go_wp2_with fail
        go_ret
        exact ⟨rfl, x, rfl⟩

theorem new_any (B : Nat) (w : World) (cv : Value) (len : Nat) (hl : len ≤ 1048576) (hB : B ≤ w.heap.size) (hcode : CodeB B w cv len) :
    Calls Tryz.prog 40 #[cv] w fun e w' => e = .returned (.pointer (some ⟨w.heap.size, 0, none⟩)) ∧ Dr B w.heap.size cv len w' ∧ w.grownBy w' none := by
  have hcode0 := hcode
  rcases hcode with ⟨⟨a, cap, rfl⟩, rfl⟩ | ⟨b, off, cap, rfl, hb, hc⟩
  · exact (new_nil w a cap).mono fun e w' ⟨h, he, hw⟩ => ⟨he, by rw [hw]; exact new_cur B w _ _ h hl hB hcode0, by rw [hw]; exact World.grownBy_alloc _ _ _⟩
  · exact (new_some w b off cap len hl hc).mono fun e w' ⟨h, he, hw⟩ => ⟨he, by rw [hw]; exact new_cur B w _ _ h hl hB hcode0, by rw [hw]; exact World.grownBy_alloc _ _ _⟩

/-- Behind a draw with a new cursor: what was there stands. -/
theorem draw_below {B : Nat} {cv : Value} {len : Nat} {w w1 w2 : World} (h1 : w.grownBy w1 none) (h2 : DrTo B w.heap.size cv len w1 w2) : Below w.heap.size w w2 :=
  ((Below.refl _ _).grown h1 (Nat.le_refl _) (fun k hk => by cases hk)).grown h2.2 h1.size (fun k hk => by cases hk; exact Nat.le_refl _)

/-- What the text loop keeps. -/
def TRel (B C : Nat) (cv : Value) (len : Nat) (w wr : World) (v : Value) (xs : List UInt8) (k most : Nat) : Prop :=
  Dr B C cv len wr ∧ OwnB wr w.heap.size v xs ∧ w.grownBy wr (some C) ∧ w.heap.size ≤ wr.heap.size ∧ xs.length + k ≤ most ∧ C < w.heap.size
theorem trel_byte {B C : Nat} {cv : Value} {len : Nat} {w wr w1 : World} {v : Value} {xs : List UInt8} {k most : Nat} (h : TRel B C cv len w wr v xs k most) (hd : DrTo B C cv len wr w1) : TRel B C cv len w w1 v xs k most := by
  obtain ⟨h1, h2, h3, h4, h5, h6⟩ := h
  refine ⟨hd.1, ?_, h3.trans hd.2, Nat.le_trans h4 hd.2.size, h5, h6⟩
  refine World.ownsRow.kept h2 hd.2 ?_
  cases hv : v.ownBlock with
  | none => exact Or.inl rfl
  | some g =>
    have := World.ownsRow.lt h2 g hv
    refine Or.inr ?_
    simp; omega
theorem trel_app {B C : Nat} {cv : Value} {len : Nat} {w wr w1 : World} {v v' : Value} {xs : List UInt8} {k most : Nat} {b : UInt8} (hk : 0 < k) (h : TRel B C cv len w wr v xs k most) (hown : OwnB w1 w.heap.size v' (xs ++ [b]))
    (hb : ∀ W, Below w.heap.size W wr → Below w.heap.size W w1) (hz : w.heap.size ≤ w1.heap.size) : TRel B C cv len w w1 v' (xs ++ [b]) (k - 1) most := by
  obtain ⟨h1, h2, h3, h4, h5, h6⟩ := h
  have hbw := hb wr (Below.refl _ _)
  refine ⟨h1.below hbw h6, hown, ?_, hz, by simp only [List.length_append, List.length_singleton]; omega, h6⟩
  exact ⟨hbw.os.trans h3.os, hbw.tape.trans h3.tape, hbw.output.trans h3.output, hz, fun i hi hne => (hbw.block i hi).trans (h3.block i hi hne)⟩

set_option maxHeartbeats 1000000 in
set_option maxRecDepth 100000 in
theorem text_any (B C : Nat) (w : World) (cv : Value) (len : Nat) (most : Nat) (hmost : most ≤ 1000) (hd : Dr B C cv len w) :
    Calls Tryz.prog 67 #[.pointer (some ⟨C, 0, none⟩), .int .i64 most] w fun e w' => ∃ t : ByteArray, t.size ≤ most ∧ e = .returned (.string t) ∧ DrTo B C cv len w w' := by
  have HD := Lib.hid hd; clear hd
  go_enter Tryz.func67, Tryz.ntmps67
  go_wp2_with fail
  refine (below_any B C _ cv len 4 (by omega) (by omega) (HD.out.alloc _)).mono ?_
  rintro e w1 ⟨st, hst, rfl, hd1⟩
  have HD1 := Lib.hid hd1; clear hd1
  go_wp2_with fail
  rw [show ((most : Int) + 1) = ((most + 1 : Nat) : Int) by omega]
  refine (below_any B C _ cv len (most + 1) (by omega) (by omega) HD1.out.1).mono ?_
  rintro e w2 ⟨k0, hk0, rfl, hd2⟩
  have hstart : TRel B C cv len w w2 (.slice (some ⟨w.heap.size, 0, none⟩) 0 0) [] k0 most := by
    have h0 : TRel B C cv len w (w.alloc (.cells #[] 5)) (.slice (some ⟨w.heap.size, 0, none⟩) 0 0) [] k0 most :=
      ⟨HD.out.alloc _, ownB_empty w _ (Nat.le_refl _), World.grownBy_alloc _ _ _, by simp, by simp; omega, HD.out.lt⟩
    exact trel_byte h0 (HD1.out.trans hd2)
  have HS := Lib.hid hstart; clear hstart hd2
  go_wp2_with fail
  go_loopw [5, 7, 8] (fun v k _ wr => ∃ (n : Nat) (xs : List UInt8), k = .int .i64 n ∧ n ≤ most ∧ TRel B C cv len w wr v xs n most) (fun _ k _ _ => (intOf k).toNat)
  case atStart => exact ⟨k0, [], rfl, by omega, HS.out⟩
  case round =>
    obtain ⟨n, xs, rfl, hn, hr⟩ := hrel
    have HR := Lib.hid hr; clear hr
    by_cases hlt : 0 < n
    · by_cases e1 : st = 1
      · have q1 : ((st : Int) == 1) = true := by rw [beq_iff_eq]; omega
        have q2 : ((st : Int) == 2) = false := by rw [beq_eq_false_iff_ne]; omega
        clear e1
        go_wp2_with fail
        refine (byte_any B C _ cv len HR.out.1).mono ?_
        rintro e w3 ⟨x, hx, rfl, hd3⟩
        have hr3 := trel_byte HR.out hd3
        have HR3 := Lib.hid hr3; clear hr3 hd3
        have hl3 : xs.length ≤ 70368744177664 := by have := HR3.out.2.2.2.2.1; omega
        have hu : ((UInt8.ofNat (x % 2)).toNat : Int) = (x : Int) % 2 := by rw [u8_nat _ (by omega)]; omega
        have HU := Lib.hid hu; clear hu
        go_wp2_with (at_builtin; go_must (refine append_byte HR3.out.2.1 HR3.out.2.2.2.1 (UInt8.ofNat (x % 2)) HU.out rfl rfl rfl rfl hl3 ?_; intro v' w4 hown' hb hz))
        have HV := trel_app hlt HR3.out hown' hb hz
        go_roundw
        case rel => exact ⟨n - 1, _, by go_num, by omega, HV⟩
        case measure => simp [intOf]; omega
      by_cases e2 : st = 2
      · have q1 : ((st : Int) == 1) = false := by rw [beq_eq_false_iff_ne]; omega
        have q2 : ((st : Int) == 2) = true := by rw [beq_iff_eq]; omega
        clear e1 e2
        go_wp2_with fail
        refine (byte_any B C _ cv len HR.out.1).mono ?_
        rintro e w3 ⟨x, hx, rfl, hd3⟩
        have hr3 := trel_byte HR.out hd3
        have HR3 := Lib.hid hr3; clear hr3 hd3
        have hl3 : xs.length ≤ 70368744177664 := by have := HR3.out.2.2.2.2.1; omega
        have hu : ((UInt8.ofNat (97 + x % 4)).toNat : Int) = 97 + (x : Int) % 4 := by rw [u8_nat _ (by omega)]; omega
        have HU := Lib.hid hu; clear hu
        go_wp2_with (at_builtin; go_must (refine append_byte HR3.out.2.1 HR3.out.2.2.2.1 (UInt8.ofNat (97 + x % 4)) HU.out rfl rfl rfl rfl hl3 ?_; intro v' w4 hown' hb hz))
        have HV := trel_app hlt HR3.out hown' hb hz
        go_roundw
        case rel => exact ⟨n - 1, _, by go_num, by omega, HV⟩
        case measure => simp [intOf]; omega
      · have q1 : ((st : Int) == 1) = false := by rw [beq_eq_false_iff_ne]; omega
        have q2 : ((st : Int) == 2) = false := by rw [beq_eq_false_iff_ne]; omega
        clear e1 e2
        go_wp2_with fail
        refine (byte_any B C _ cv len HR.out.1).mono ?_
        rintro e w3 ⟨x, hx, rfl, hd3⟩
        have hr3 := trel_byte HR.out hd3
        have HR3 := Lib.hid hr3; clear hr3 hd3
        have hl3 : xs.length ≤ 70368744177664 := by have := HR3.out.2.2.2.2.1; omega
        have hu : ((UInt8.ofNat x).toNat : Int) = (x : Int) := u8_nat _ (by omega)
        have HU := Lib.hid hu; clear hu
        go_wp2_with (at_builtin; go_must (refine append_byte HR3.out.2.1 HR3.out.2.2.2.1 (UInt8.ofNat x) HU.out rfl rfl rfl rfl hl3 ?_; intro v' w4 hown' hb hz))
        have HV := trel_app hlt HR3.out hown' hb hz
        go_roundw
        case rel => exact ⟨n - 1, _, by go_num, by omega, HV⟩
        case measure => simp [intOf]; omega
    · obtain rfl : n = 0 := by omega
      have hcv := convB HR.out.2.1
      have hlen := HR.out.2.2.2.2.1
      go_wp2_with fail
      go_ret
      exact ⟨_, by simpa [ByteArray.size] using hlen, rfl, HR.out.1, HR.out.2.2.1⟩

end Go.Proofs.YtfjeghalkmkgoaaGreatDoor
namespace Go.Proofs.YtfjeghalkmkgoaaGreatDoor
open Go.RowKit

/-- The value reads as this list of ints, from a block below B. -/
def RowB (B : Nat) (w : World) (v : Value) (l : List Int) : Prop :=
  (l = [] ∧ ∃ a cap, v = .slice a 0 cap) ∨ ∃ b off cap, v = .slice (some ⟨b, off, none⟩) l.length cap ∧ b < B ∧ ∀ j (h : j < l.length), w.cell? ⟨b, off + j, none⟩ = some (.int .i64 l[j])
theorem RowB.below {B B' : Nat} {w w' : World} {v : Value} {l : List Int} (h : RowB B w v l) (hb : Below B' w w') (hB : B ≤ B') : RowB B w' v l := by
  rcases h with h | ⟨b, off, cap, h1, h2, h3⟩
  · exact Or.inl h
  · exact Or.inr ⟨b, off, cap, h1, h2, fun j hj => (hb.cell (p := ⟨b, off + j, none⟩) (by show b < B'; omega)).trans (h3 j hj)⟩
theorem RowB.mono {B B' : Nat} {w : World} {v : Value} {l : List Int} (h : RowB B w v l) (hB : B ≤ B') : RowB B' w v l := by
  rcases h with h | ⟨b, off, cap, h1, h2, h3⟩
  · exact Or.inl h
  · exact Or.inr ⟨b, off, cap, h1, by omega, h3⟩
theorem RowB.slice {B : Nat} {w : World} {v : Value} {l : List Int} (h : RowB B w v l) : ∃ a cap, v = .slice a l.length cap := by
  rcases h with ⟨rfl, a, cap, rfl⟩ | ⟨b, off, cap, rfl, _, _⟩
  · exact ⟨a, cap, rfl⟩
  · exact ⟨_, cap, rfl⟩
/-- One int of the list. -/
theorem RowB.get {B : Nat} {w : World} {a : Option Addr} {n cap : Nat} {l : List Int} (h : RowB B w (.slice a n cap) l) {j : Nat} (hj : j < n) :
    ∃ b off, ∃ hl : j < l.length, a = some ⟨b, off, none⟩ ∧ b < B ∧ w.cell? ⟨b, off + j, none⟩ = some (.int .i64 l[j]) := by
  rcases h with ⟨rfl, a', cap', h⟩ | ⟨b, off, cap', h, h2, h3⟩
  · injection h with h1 h2 h3; omega
  · injection h with h4 h5 h6
    subst h4
    exact ⟨b, off, by omega, rfl, h2, h3 j (by omega)⟩

/-- The value reads as this list of lists, every block below B. -/
def MatB (B : Nat) (w : World) (v : Value) (m : List (List Int)) : Prop :=
  (m = [] ∧ ∃ a cap, v = .slice a 0 cap) ∨ ∃ b off cap, v = .slice (some ⟨b, off, none⟩) m.length cap ∧ b < B ∧ ∀ j (h : j < m.length), ∃ rv, w.cell? ⟨b, off + j, none⟩ = some rv ∧ RowB B w rv m[j]
theorem MatB.below {B B' : Nat} {w w' : World} {v : Value} {m : List (List Int)} (h : MatB B w v m) (hb : Below B' w w') (hB : B ≤ B') : MatB B w' v m := by
  rcases h with h | ⟨b, off, cap, h1, h2, h3⟩
  · exact Or.inl h
  · refine Or.inr ⟨b, off, cap, h1, h2, fun j hj => ?_⟩
    obtain ⟨rv, h4, h5⟩ := h3 j hj
    exact ⟨rv, (hb.cell (p := ⟨b, off + j, none⟩) (by show b < B'; omega)).trans h4, h5.below hb hB⟩
theorem MatB.mono {B B' : Nat} {w : World} {v : Value} {m : List (List Int)} (h : MatB B w v m) (hB : B ≤ B') : MatB B' w v m := by
  rcases h with h | ⟨b, off, cap, h1, h2, h3⟩
  · exact Or.inl h
  · refine Or.inr ⟨b, off, cap, h1, by omega, fun j hj => ?_⟩
    obtain ⟨rv, h4, h5⟩ := h3 j hj
    exact ⟨rv, h4, h5.mono hB⟩
theorem MatB.slice {B : Nat} {w : World} {v : Value} {m : List (List Int)} (h : MatB B w v m) : ∃ a cap, v = .slice a m.length cap := by
  rcases h with ⟨rfl, a, cap, rfl⟩ | ⟨b, off, cap, rfl, _, _⟩
  · exact ⟨a, cap, rfl⟩
  · exact ⟨_, cap, rfl⟩
/-- One row of the matrix, its header and its address. -/
theorem MatB.get {B : Nat} {w : World} {a : Option Addr} {n cap : Nat} {m : List (List Int)} (h : MatB B w (.slice a n cap) m) {j : Nat} (hj : j < n) :
    ∃ b off, ∃ hl : j < m.length, a = some ⟨b, off, none⟩ ∧ b < B ∧ ∃ ra rcap, w.cell? ⟨b, off + j, none⟩ = some (.slice ra m[j].length rcap) ∧ RowB B w (.slice ra m[j].length rcap) m[j] := by
  rcases h with ⟨rfl, a', cap', h⟩ | ⟨b, off, cap', h, h2, h3⟩
  · injection h with h1 h2 h3; omega
  · injection h with h4 h5 h6
    subst h4
    have hjl : j < m.length := by omega
    obtain ⟨rv, h7, h8⟩ := h3 j hjl
    obtain ⟨ra, rcap, h9⟩ := h8.slice
    rw [h9] at h7 h8
    exact ⟨b, off, hjl, rfl, h2, ra, rcap, h7, h8⟩
end Go.Proofs.YtfjeghalkmkgoaaGreatDoor
