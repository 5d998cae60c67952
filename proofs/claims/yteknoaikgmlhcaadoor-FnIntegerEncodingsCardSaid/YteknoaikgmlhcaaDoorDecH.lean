/-
  DecodeHex of the model and of the program: what each call returns.
-/
import Derived.Test.YteknoaikgmlhcaaDoorHexP
import Derived.Test.YteknoaikgmlhcaaDoorDecVI
namespace Go.Proofs.YteknoaikgmlhcaaDoor
open Go.RowKit

/-- The digit's value, or -1. -/
def hexJ (b : UInt8) : Int := if isHex b then (hvN b : Int) else -1
theorem hexJ_yes {b : UInt8} (h : isHex b) : hexJ b = hvN b := if_pos h
theorem hexJ_no {b : UInt8} (h : ¬ isHex b) : hexJ b = -1 := if_neg h

theorem ret_i64 {a b : Int} (h : a = b) : Ending.returned (.int .i64 a) = .returned (.int .i64 b) := by rw [h]
theorem nohex_step {b : UInt8} {k : Nat} (h : ∀ j, j < k → (hexd j).toNat ≠ b.toNat) (hk : ¬ (hexd k).toNat = b.toNat) : ∀ j, j < k + 1 → (hexd j).toNat ≠ b.toNat := fun j hj => by
  rcases Nat.lt_or_ge j k with h' | h'
  · exact h j h'
  · have : j = k := by omega
    subst this; exact hk
theorem nohex {b : UInt8} (h : ∀ j, j < 16 → (hexd j).toNat ≠ b.toNat) : ¬ isHex b := fun hb =>
  h (hvN b) (hvN_lt hb) ((hexd_iff _ (hvN_lt hb) b).2 ⟨hb, rfl⟩)

theorem ret_u8b {a b : Int} {c : Bool} (h : a = b) : Ending.returned (.tuple #[.int .u8 a, .bool c]) = .returned (.tuple #[.int .u8 b, .bool c]) := by rw [h]

set_option maxHeartbeats 400000 in
theorem hexval_yes (b : UInt8) (w : World) (h : isHex b) :
    Calls Tryd.prog 27 #[.int .i32 (b.toNat : Int)] w fun e w' => e = .returned (.tuple #[.int .u8 (hvN b), .bool true]) ∧ w = w' := by
  have hv : ((hvN b : Nat) : Int) = if b.toNat ≤ 57 then (b.toNat : Int) - 48 else (b.toNat : Int) - 97 + 10 := by unfold isHex at h; unfold hvN; split <;> omega
  have HV := Lib.hid hv; clear hv
  by_cases h1 : b.toNat ≤ 57
  · have h2 : 48 ≤ b.toNat := by unfold isHex at h; omega
    clear h
    go_enter Tryd.func27, Tryd.ntmps27
    go_wp2
    go_ret2
    exact ⟨ret_u8b (by rw [HV.out, if_pos h1]), rfl⟩
  · have h2 : 97 ≤ b.toNat := by unfold isHex at h; omega
    have h3 : b.toNat ≤ 102 := by unfold isHex at h; omega
    clear h
    go_enter Tryd.func27, Tryd.ntmps27
    go_wp2
    go_ret2
    exact ⟨ret_u8b (by rw [HV.out, if_neg h1]), rfl⟩

set_option maxHeartbeats 400000 in
theorem hexval_no (x : Int) (w : World) (h : ¬ ((48 ≤ x ∧ x ≤ 57) ∨ (97 ≤ x ∧ x ≤ 102))) :
    Calls Tryd.prog 27 #[.int .i32 x] w fun e w' => e = .returned (.tuple #[.int .u8 0, .bool false]) ∧ w = w' := by
  have h1 : x < 48 ∨ (57 < x ∧ x < 97) ∨ 102 < x := by omega
  clear h
  rcases h1 with h1 | ⟨h1, h2⟩ | h1
  all_goals
    go_enter Tryd.func27, Tryd.ntmps27
    go_wp2
    go_ret2
    exact ⟨rfl, rfl⟩

/-- What the model's loop keeps. -/
def URel (B : Nat) (s : ByteArray) (j : Nat) (v : Value) (w wr : World) : Prop := OwnB wr B v (hexD s j) ∧ allHex s (2 * j) ∧ Below B w wr ∧ B ≤ wr.heap.size
theorem urel_step {B j : Nat} {s : ByteArray} {v v' : Value} {w wr w1 : World} (h : URel B s j v w wr) (h0 : isHex (s.data.toList.getD (2 * j) 0)) (h1 : isHex (s.data.toList.getD (2 * j + 1) 0))
    (hown : OwnB w1 B v' (hexD s j ++ [pairB s j])) (hb : ∀ W, Below B W wr → Below B W w1) (hz : B ≤ w1.heap.size) : URel B s (j + 1) v' w w1 :=
  ⟨by rw [hexD_succ]; exact hown, allHex_step (allHex_step h.2.1 h0) h1, hb w h.2.2.1, hz⟩
theorem pairB_nat (s : ByteArray) (j : Nat) (h0 : isHex (s.data.toList.getD (2 * j) 0)) (h1 : isHex (s.data.toList.getD (2 * j + 1) 0)) : ((pairB s j).toNat : Int) = 16 * (hvN (s.data.toList.getD (2 * j) 0) : Int) + (hvN (s.data.toList.getD (2 * j + 1) 0) : Int) := by
  have := hvN_lt h0
  have := hvN_lt h1
  unfold pairB
  rw [u8_natN _ (by omega)]; omega

/-- The world inside the program's loop: its own array, and behind it the iterator. -/
theorem it_store (s : ByteArray) (w : World) (l : List UInt8) (p j : Nat) (x : Int) (b : UInt8) (hx : (b.toNat : Int) = x) : ((w.alloc (.cells (bytesV l).toArray 5)).iter s p).setCell ⟨w.heap.size, j, none⟩ (.int .u8 x) = (w.alloc (.cells (bytesV (l.set j b)).toArray 5)).iter s p := by
  subst hx
  unfold World.iter
  rw [World.setCell_alloc_past _ _ _ _ (by simp), World.setCell_alloc_at _ _ _ _ _ rfl]
  congr 3
  simp [bytesV, byteV, List.map_set]
theorem it_load (s : ByteArray) (w : World) (l : List UInt8) (p j : Nat) (b : UInt8) (h : l[j]? = some b) : ((w.alloc (.cells (bytesV l).toArray 5)).iter s p).cell? ⟨w.heap.size, j, none⟩ = some (.int .u8 (b.toNat : Int)) := by
  unfold World.iter
  rw [World.cell?_alloc_past _ _ _ (by simp), World.cell?_alloc_at _ _ _ _ rfl]
  simp [bytesV, byteV, h]
theorem it_frozen (s : ByteArray) (w : World) (l : List UInt8) (p j : Nat) : ((w.alloc (.cells (bytesV l).toArray 5)).iter s p).frozen? ⟨w.heap.size, j, none⟩ = false := by
  unfold World.iter
  rw [World.frozen?_alloc_past _ _ _ (by simp), World.frozen?_alloc_at _ _ _ _ rfl]

theorem it_pos (s : ByteArray) (w : World) (c : Array Value) (p : Nat) : ((w.alloc (.cells c 5)).iter s p).iterPos (w.heap.size + 1) = p := by
  have := World.iterPos_iter (w.alloc (.cells c 5)) s p
  simpa using this
theorem it_below (s : ByteArray) (w : World) (c : Array Value) (p : Nat) : Below w.heap.size w ((w.alloc (.cells c 5)).iter s p) := by
  unfold World.iter
  exact ((Below.refl _ _).alloc (Nat.le_refl _) _).alloc (by simp) _
theorem not_hex {b : UInt8} (h : ¬ isHex b) : ¬ ((48 ≤ (b.toNat : Int) ∧ (b.toNat : Int) ≤ 57) ∨ (97 ≤ (b.toNat : Int) ∧ (b.toNat : Int) ≤ 102)) := by unfold isHex at h; omega

set_option maxHeartbeats 400000 in
set_option maxRecDepth 100000 in
theorem dechi_odd (s : ByteArray) (w : World) (hodd : s.size % 2 = 1) :
    Calls Tryd.prog 16 #[.string s] w fun e w' => UnhexAns s e ∧ Below w.heap.size w w' := by
  have HO := Lib.hid hodd
  have hq : ((s.size : Int) % 2 != 0) = true := by rw [bne_iff_ne]; omega
  clear hodd
  go_enter Tryd.func16, Tryd.ntmps16
  go_wp2
  go_ret2
  exact ⟨unhex_odd s HO.out, Below.refl _ _⟩

set_option maxHeartbeats 400000 in
set_option maxRecDepth 100000 in
theorem dechi_even (s : ByteArray) (w : World) (hs : s.size ≤ 1048576) (hev : s.size % 2 = 0) :
    Calls Tryd.prog 16 #[.string s] w fun e w' => UnhexAns s e ∧ Below w.heap.size w w' := by
  obtain ⟨i0, hi, hz0, hz1, hz2⟩ := info_parts Tryd.infoU8
  have hmk : (Instr.makeSlice 22 (.int .i64 ((s.size : Int) / 2)) (.int .i64 ((s.size : Int) / 2))).run Tryd.prog w = .ok (.slice (some ⟨w.heap.size, 0, none⟩) (s.size / 2) (s.size / 2)) (w.alloc (.cells (bytesV (hexSt s 0)).toArray 5)) := by
    have h := run_make (P := Tryd.prog) w 22 5 i0 (.int .u8 0) Tryd.underlying22 hi hz0 .i64 .i64 ((s.size : Int) / 2) ((s.size : Int) / 2) (by omega) (Int.le_refl _) (by rw [hz2]; omega) (by omega)
    rw [h, hz1, Nat.mul_one, hexSt_zero, ← madeU8, show ((s.size : Int) / 2).toNat = s.size / 2 by omega]
  have hq : ((s.size : Int) % 2 != 0) = false := by rw [bne_eq_false_iff_eq]; omega
  have HE := Lib.hid hev; clear hev
  clear hi hz0 hz1 hz2
  go_enter Tryd.func16, Tryd.ntmps16
  go_wp2_with fail
  go_loopw [5] (fun _ wr => ∃ k : Nat, k ≤ s.size ∧ wr = (w.alloc (.cells (bytesV (hexSt s k)).toArray 5)).iter s k ∧ allHex s k) (fun _ wr => s.size - wr.iterPos (w.heap.size + 1))
  case atStart => exact ⟨0, Nat.zero_le _, rfl, allHex_zero s⟩
  case round =>
    obtain ⟨k, hk, rfl, hr⟩ := hrel
    have HR := Lib.hid hr; clear hr
    by_cases hlt : k < s.size
    · have e0 := byte_getD s k hlt
      have E0 := Lib.hid e0; clear e0
      by_cases ha : (s[k]'hlt).toNat < 128
      · have hnx : ∀ ty, (Instr.next (.pointer (some ⟨w.heap.size + 1, 0, none⟩)) true ty).run Tryd.prog ((w.alloc (.cells (bytesV (hexSt s k)).toArray 5)).iter s k) = .ok (.tuple #[.bool true, .int .i64 k, .int .i32 (s[k]'hlt).toNat]) ((w.alloc (.cells (bytesV (hexSt s k)).toArray 5)).iter s (k + 1)) := fun ty => by
          have := run_next_ascii (P := Tryd.prog) (w.alloc (.cells (bytesV (hexSt s k)).toArray 5)) s k ty hlt ha
          simpa using this
        by_cases hx : isHex (s[k]'hlt)
        · have HX := Lib.hid hx; clear hx
          obtain ⟨B0, hB0, hB1⟩ : ∃ B0 : UInt8, (hexSt s k)[k / 2]? = some B0 ∧ B0.toNat = (if k % 2 = 0 then 0 else hvN (s.data.toList.getD (k - 1) 0)) := by
            refine ⟨_, hexSt_get s k hlt HE.out, ?_⟩
            by_cases h0 : k % 2 = 0
            · rw [if_pos h0, if_pos h0]; rfl
            · have := hvN_lt (HR.out (k - 1) (by omega))
              rw [if_neg h0, if_neg h0, u8_natN _ (by omega)]
          have hB15 : B0.toNat ≤ 15 := by
            rw [hB1]
            by_cases h0 : k % 2 = 0
            · rw [if_pos h0]; omega
            · have := hvN_lt (HR.out (k - 1) (by omega))
              rw [if_neg h0]; omega
          have hv := hvN_lt HX.out
          have hor := nib_or B0.toNat (hvN (s[k]'hlt)) hB15 (by omega)
          have hstep := hexSt_step s k hlt HE.out (UInt8.ofNat (16 * B0.toNat + hvN (s[k]'hlt))) (by
            rw [u8_natN _ (by omega), E0.out, hB1]
            by_cases h0 : k % 2 = 0
            · rw [if_pos h0, if_pos h0]
            · rw [if_neg h0, if_neg h0])
          have hst := it_store s w (hexSt s k) (k + 1) (k / 2) ((16 * B0.toNat + hvN (s[k]'hlt) : Nat) : Int) (UInt8.ofNat (16 * B0.toNat + hvN (s[k]'hlt))) (u8_nat _ (by omega))
          rw [← hstep] at hst
          have hld := it_load s w (hexSt s k) (k + 1) (k / 2) B0 hB0
          have hfz := it_frozen s w (hexSt s k) (k + 1) (k / 2)
          have hk2 : k / 2 < s.size / 2 := by have := HE.out; omega
          clear hB0 hB1 hstep
          go_wp2_with (go_at_call 27; go_must (refine (hexval_yes _ _ HX.out).mono ?_; rintro e w' ⟨rfl, rfl⟩))
          rw [show (16 * (B0.toNat : Int) + (hvN (s[k]'hlt) : Int)) = ((16 * B0.toNat + hvN (s[k]'hlt) : Nat) : Int) by omega, hst]
          refine ⟨⟨k + 1, by omega, rfl, allHex_step HR.out (by rw [E0.out]; exact HX.out)⟩, ?_⟩
          rw [it_pos, it_pos]; omega
        · have HX := Lib.hid hx; clear hx
          go_wp2_with (go_at_call 27; go_must (refine (hexval_no _ _ (not_hex HX.out)).mono ?_; rintro e w' ⟨rfl, rfl⟩))
          go_ret2
          exact ⟨unhex_bad s k hlt (by rw [E0.out]; exact HX.out), it_below _ _ _ _⟩
      · have hnx : ∀ ty, (Instr.next (.pointer (some ⟨w.heap.size + 1, 0, none⟩)) true ty).run Tryd.prog ((w.alloc (.cells (bytesV (hexSt s k)).toArray 5)).iter s k) = .ok (.tuple #[.bool true, .int .i64 k, .int .i32 (Utf8.decode s k).1]) ((w.alloc (.cells (bytesV (hexSt s k)).toArray 5)).iter s (k + (Utf8.decode s k).2)) := fun ty => by
          have := run_next_any (P := Tryd.prog) (w.alloc (.cells (bytesV (hexSt s k)).toArray 5)) s k ty hlt
          simpa using this
        have hdh := (decode_high s k hlt (by omega)).1
        have HX : ¬ isHex (s[k]'hlt) := by unfold isHex; omega
        have HX' := Lib.hid HX; clear HX
        go_wp2_with (go_at_call 27; go_must (refine (hexval_no _ _ (by omega)).mono ?_; rintro e w' ⟨rfl, rfl⟩))
        go_ret2
        exact ⟨unhex_bad s k hlt (by rw [E0.out]; exact HX'.out), it_below _ _ _ _⟩
    · obtain rfl : k = s.size := by omega
      have hnx : ∀ ty, (Instr.next (.pointer (some ⟨w.heap.size + 1, 0, none⟩)) true ty).run Tryd.prog ((w.alloc (.cells (bytesV (hexSt s s.size)).toArray 5)).iter s s.size) = .ok (.tuple #[.bool false]) ((w.alloc (.cells (bytesV (hexSt s s.size)).toArray 5)).iter s s.size) := fun ty => by
        have := run_next_end (P := Tryd.prog) (w.alloc (.cells (bytesV (hexSt s s.size)).toArray 5)) s s.size ty hlt
        simpa using this
      have hown : OwnB ((w.alloc (.cells (bytesV (hexSt s s.size)).toArray 5)).iter s s.size) w.heap.size (.slice (some ⟨w.heap.size, 0, none⟩) (s.size / 2) (s.size / 2)) (hexSt s s.size) := by
        have h := (ownB_lit w w.heap.size (Nat.le_refl _) (hexSt s s.size) (by rw [hexSt_len]; unfold maxLen; omega)).alloc (.stringIter s s.size)
        rw [hexSt_len] at h
        exact h
      have hcv := convB hown
      have HO := Lib.hid hown; clear hown
      go_wp2_with fail
      go_ret2
      have hg := unhex_good s HE.out HR.out
      rw [← hexSt_end s HE.out] at hg
      exact ⟨hg, it_below _ _ _ _⟩

theorem dechi_any (s : ByteArray) (w : World) (hs : s.size ≤ 1048576) :
    Calls Tryd.prog 16 #[.string s] w fun e w' => UnhexAns s e ∧ Below w.heap.size w w' := by
  rcases Nat.mod_two_eq_zero_or_one s.size with h | h
  · exact dechi_even s w hs h
  · exact dechi_odd s w h
end Go.Proofs.YteknoaikgmlhcaaDoor
