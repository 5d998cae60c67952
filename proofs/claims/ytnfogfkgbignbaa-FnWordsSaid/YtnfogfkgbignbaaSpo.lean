/-
  A text that is spoiled: what the call returns.
-/
import Derived.Test.YtnfogfkgbignbaaDrm
import Derived.Test.YtnfogfkgbignbaaBytes
import Derived.Laws.Slices
import Derived.IntWalk
import Derived.Laws.Strings2
import Derived.Laws.Strings3
import Derived.Deep.RegionWith
import Derived.Deep.QuietTactic
import Derived.BigQuiet
namespace Go.Proofs.Ytnfogfkgbignbaa
open Go.RowKit

theorem some_byte (z : Int) : ∃ b : UInt8, (b.toNat : Int) = IntKind.u8.wrap z := by
  have h : 0 ≤ IntKind.u8.wrap z ∧ IntKind.u8.wrap z ≤ 255 := by
    unfold IntKind.wrap
    simp [IntKind.signed, IntKind.bits]
    omega
  refine ⟨UInt8.ofNat (IntKind.u8.wrap z).toNat, ?_⟩
  rw [UInt8.toNat_ofNat_of_lt' (by have := h.2; show _ < 256; omega)]
  omega
def byteOf (z : Int) : UInt8 := UInt8.ofNat (IntKind.u8.wrap z).toNat
theorem byteOf_eq (z : Int) : ((byteOf z).toNat : Int) = IntKind.u8.wrap z := by
  have h : 0 ≤ IntKind.u8.wrap z ∧ IntKind.u8.wrap z ≤ 255 := by
    unfold IntKind.wrap
    simp [IntKind.signed, IntKind.bits]
    omega
  unfold byteOf
  rw [UInt8.toNat_ofNat_of_lt' (by have := h.2; show _ < 256; omega)]
  omega
theorem byteOf_mod (z : Int) : ((byteOf z).toNat : Int) = z % 256 := by rw [byteOf_eq, IntKind.wrap_u8]
/-- What a call that draws a text leaves. -/
def DrT (B C : Nat) (cv : Value) (len : Nat) (most : Nat) (w : World) (e : Ending) (w' : World) : Prop := ∃ t : ByteArray, t.size ≤ most ∧ e = .returned (.string t) ∧ DrTo B C cv len w w'
set_option maxHeartbeats 2000000 in
set_option maxRecDepth 100000 in
theorem spoil_any (B C : Nat) (w : World) (cv : Value) (len : Nat) (s : ByteArray) (n : Nat) (hn : s.size = n) (hs : n ≤ 100000) (hd : Dr B C cv len w) :
    Calls Try.prog 57 #[.pointer (some ⟨C, 0, none⟩), .string s] w (DrT B C cv len (n + 3) w) := by
  have hC := hd.lt
  by_cases h0 : n = 0
  · have hs0 : s = ⟨#[]⟩ := by
      cases s with
      | mk d => simp [ByteArray.size] at hn; have : d = #[] := by apply Array.eq_empty_of_size_eq_zero; omega
                rw [this]
    have HT := Lib.hid (text_any B C w cv len 3 (by omega) hd)
    subst hs0
    clear hd hn
    subst h0
    go_enter Try.func57, Try.ntmps57
    go_wp2_with fail
    refine HT.out.mono ?_
    rintro e w1 ⟨t, ht, rfl, h1⟩
    have H1 := Lib.hid h1; clear h1
    go_wp2_with fail
    go_ret
    exact ⟨t, by omega, rfl, H1.out⟩
  · have hsn : ((s.size : Int) == 0) = false := by rw [beq_eq_false_iff_ne]; omega
    have HBE := Lib.hid (below_any B C w cv len n (by omega) (by omega) hd)
    clear hd
    go_enter Try.func57, Try.ntmps57
    go_wp2_with fail
    try rw [hn]
    refine HBE.out.mono ?_
    rintro e w1 ⟨k, hk, rfl, hd1⟩
    have HD1 := Lib.hid hd1
    have hs1 := hd1.2.size
    have HB4 := Lib.hid (below_any B C w1 cv len 4 (by omega) (by omega) hd1.1)
    clear hd1 HBE
    go_wp2_with fail
    refine HB4.out.mono ?_
    rintro e w2 ⟨r, hr, rfl, hd2⟩
    have HD2 := Lib.hid (HD1.out.trans hd2)
    have hs2 := hd2.2.size
    clear hd2 HB4 HD1
    have hks : k < s.size := by omega
    obtain ⟨x1, hx1, hx1s⟩ : ∃ x : ByteArray, s.extract 0 k = x ∧ x.size ≤ n := ⟨_, rfl, by rw [ByteArray.size_extract]; omega⟩
    obtain ⟨x2, hx2, hx2s⟩ : ∃ x : ByteArray, s.extract k n = x ∧ x.size ≤ n := ⟨_, rfl, by rw [ByteArray.size_extract]; omega⟩
    obtain ⟨x3, hx3, hx3s⟩ : ∃ x : ByteArray, s.extract (k + 1) n = x ∧ x.size ≤ n := ⟨_, rfl, by rw [ByteArray.size_extract]; omega⟩
    have hx12 : x1.size + x2.size ≤ n := by rw [← hx1, ← hx2, ByteArray.size_extract, ByteArray.size_extract]; omega
    have hx13 : x1.size + x3.size ≤ n := by rw [← hx1, ← hx3, ByteArray.size_extract, ByteArray.size_extract]; omega
    rcases (show r = 0 ∨ r = 1 ∨ r = 2 ∨ r = 3 by omega) with rfl | rfl | rfl | rfl
    · go_wp2_with fail
      go_quiet (fail)
      go_wp2_with fail
      go_ret
      exact ⟨_, by rw [ByteArray.size_append]; omega, rfl, HD2.out.trans (DrTo.of_below HD2.out.1 (below_drewN _))⟩
    · have HDD := Lib.hid (show Dr B C cv len w2.drew from (DrTo.of_below HD2.out.1 ((Below.refl _ _).drew)).1)
      have HBY := Lib.hid (byte_any B C w2.drew cv len HDD.out)
      go_wp2_with fail
      go_region_with (go_at_call 74; refine HBY.out.mono ?_; rintro e w3 ⟨y, hy, rfl, hd3⟩; have HD3 := Lib.hid hd3; obtain ⟨b, hb⟩ := some_byte (y : Int); have hcv := conv_byte w3 b hb; have hcv2 := conv_byte w3 b (u := (y : Int)) (by rw [hb]; exact IntWalk.u8_in _ (by omega)); clear hb; have hbs : (⟨#[b]⟩ : ByteArray).size ≤ 1 := Nat.le_refl _; have hxb : (x1 ++ ⟨#[b]⟩).size ≤ x1.size + 1 := by rw [ByteArray.size_append]; exact Nat.le_refl _)
      all_goals
        go_wp2_with fail
        go_ret
        exact ⟨_, by rw [ByteArray.size_append]; omega, rfl, (HD2.out.trans ((DrTo.of_below HD2.out.1 (Below.refl _ _).drew).trans HD3.out)).trans (DrTo.of_below HD3.out.1 ((Below.refl _ _).alloc (Nat.le_refl _) _))⟩
    · go_wp2_with fail
      go_ret
      exact ⟨x1, by omega, rfl, HD2.out⟩
    · have HDD := Lib.hid (show Dr B C cv len w2.drew from (DrTo.of_below HD2.out.1 ((Below.refl _ _).drew)).1)
      have HBY := Lib.hid (below_any B C w2.drew cv len 255 (by omega) (by omega) HDD.out)
      go_wp2_with fail
      have hw1 : IntKind.i64.wrap ((k : Int) + 1) = (k : Int) + 1 := IntWalk.i64_in _ (by omega)
      have hw2 : 0 ≤ (k : Int) + 1 := by omega
      have hw3 : ((k : Int) + 1).toNat = k + 1 := by omega
      have hw4 : (k : Int) + 1 ≤ n := by omega
      go_region_with (go_at_call 56; refine HBY.out.mono ?_; rintro e w3 ⟨y, hy, rfl, hd3⟩; have HD3 := Lib.hid hd3; have hcv := fun z : Int => conv_byte w3 (byteOf z) (byteOf_mod z); have hcv3 := fun z : Int => conv_byte w3 (byteOf z) (byteOf_eq z); have hbs : ∀ z, (⟨#[byteOf z]⟩ : ByteArray).size = 1 := fun _ => rfl; have hxb : ∀ z, (x1 ++ ⟨#[byteOf z]⟩).size = x1.size + 1 := fun z => by rw [ByteArray.size_append]; rfl)
      all_goals
        clear hcv hcv3 hbs
        go_wp2_with fail
        go_ret
        exact ⟨_, by rw [ByteArray.size_append, hxb]; omega, rfl, (HD2.out.trans ((DrTo.of_below HD2.out.1 (Below.refl _ _).drew).trans HD3.out)).trans (DrTo.of_below HD3.out.1 ((Below.refl _ _).alloc (Nat.le_refl _) _))⟩
end Go.Proofs.Ytnfogfkgbignbaa
