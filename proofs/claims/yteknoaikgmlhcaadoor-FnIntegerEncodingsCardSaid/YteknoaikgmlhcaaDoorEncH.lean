/-
  EncodeHex of the model and of the program: what each call returns.
-/
import Derived.Test.YteknoaikgmlhcaaDoorBytes
import Derived.Test.YteknoaikgmlhcaaDoorDecF
namespace Go.Proofs.YteknoaikgmlhcaaDoor
open Go.RowKit

/-- The sixteen digits. -/
def hexd (k : Nat) : UInt8 := UInt8.ofNat (if k < 10 then 48 + k else 87 + k)
def hexE (l : List UInt8) : List UInt8 := l.flatMap fun b => [hexd (b.toNat / 16), hexd (b.toNat % 16)]
theorem hexE_snoc (l : List UInt8) (b : UInt8) : hexE (l ++ [b]) = hexE l ++ [hexd (b.toNat / 16), hexd (b.toNat % 16)] := by simp [hexE]
theorem hexE_len (l : List UInt8) : (hexE l).length = 2 * l.length := by
  induction l with
  | nil => rfl
  | cons b r ih => simp only [hexE, List.flatMap_cons, List.length_append, List.length_cons, List.length_nil] at ih ⊢; omega
theorem lit_digit : ∀ (k : Nat) (h : k < 16), ((⟨#[48, 49, 50, 51, 52, 53, 54, 55, 56, 57, 97, 98, 99, 100, 101, 102]⟩ : ByteArray)[k]'h) = hexd k := by decide

theorem lit_div (b : UInt8) (h : ((b.toNat : Int) / 16).toNat < 16) : ((hexd (b.toNat / 16)).toNat : Int) = (((⟨#[48, 49, 50, 51, 52, 53, 54, 55, 56, 57, 97, 98, 99, 100, 101, 102]⟩ : ByteArray)[((b.toNat : Int) / 16).toNat]'h).toNat : Int) := by
  rw [lit_digit _ h, show ((b.toNat : Int) / 16).toNat = b.toNat / 16 by omega]
theorem lit_mod (b : UInt8) (h : ((b.toNat : Int) % 16).toNat < 16) : ((hexd (b.toNat % 16)).toNat : Int) = (((⟨#[48, 49, 50, 51, 52, 53, 54, 55, 56, 57, 97, 98, 99, 100, 101, 102]⟩ : ByteArray)[((b.toNat : Int) % 16).toNat]'h).toNat : Int) := by
  rw [lit_digit _ h, show ((b.toNat : Int) % 16).toNat = b.toNat % 16 by omega]
def hexI (x : Int) : Int := ((hexd x.toNat).toNat : Int)
theorem hexI_div (b : UInt8) : ((hexd (b.toNat / 16)).toNat : Int) = hexI ((b.toNat : Int) / 16) := by
  unfold hexI; rw [show ((b.toNat : Int) / 16).toNat = b.toNat / 16 by omega]
theorem hexI_mod (b : UInt8) : ((hexd (b.toNat % 16)).toNat : Int) = hexI ((b.toNat : Int) % 16) := by
  unfold hexI; rw [show ((b.toNat : Int) % 16).toNat = b.toNat % 16 by omega]

theorem ret_u8 {a b : Int} (h : a = b) : Ending.returned (.int .u8 a) = .returned (.int .u8 b) := by rw [h]

/-- What the loop keeps. -/
def HRel (B : Nat) (s : ByteArray) (k : Nat) (v : Value) (w wr : World) : Prop := OwnB wr B v (hexE (s.data.toList.take k)) ∧ Below B w wr ∧ B ≤ wr.heap.size
theorem hrel_step {B k : Nat} {s : ByteArray} {v v' : Value} {w wr w1 : World} (hk : k < s.size) (h : HRel B s k v w wr)
    (hown : OwnB w1 B v' (hexE (s.data.toList.take k) ++ [hexd ((s[k]).toNat / 16), hexd ((s[k]).toNat % 16)])) (hb : ∀ W, Below B W wr → Below B W w1) (hz : B ≤ w1.heap.size) : HRel B s (k + 1) v' w w1 := by
  refine ⟨?_, hb w h.2.1, hz⟩
  rw [take_snoc s k hk, hexE_snoc]
  exact hown
theorem hexE_small (s : ByteArray) (k : Nat) (hs : s.size ≤ 1048576) : (hexE (s.data.toList.take k)).length ≤ 70368744177664 := by
  rw [hexE_len]
  have := List.length_take_le' k s.data.toList
  simp only [Array.length_toList, ByteArray.size_data] at this
  omega

theorem hexE_all (s : ByteArray) : hexE (s.data.toList.take s.size) = hexE s.data.toList := by
  rw [List.take_of_length_le (by simp)]

set_option maxHeartbeats 400000 in
set_option maxRecDepth 100000 in
theorem enchi_any (s : ByteArray) (w : World) (hs : s.size ≤ 1048576) :
    Calls Tryd.prog 15 #[.string s] w fun e w' => e = .returned (.string ⟨(hexE s.data.toList).toArray⟩) ∧ Below w.heap.size w w' := by
  go_enter Tryd.func15, Tryd.ntmps15
  go_wp2_with (at_make; go_must (refine make_bytes w w.heap.size (Nat.le_refl _) (2 * s.size) (by omega) (by omega) rfl rfl rfl rfl ?_; intro w0 hown0 hb0 hz0))
  go_loopw [3, 11] (fun v i wr => ∃ k : Nat, k ≤ s.size ∧ i = .int .i64 k ∧ HRel w.heap.size s k v w wr) (fun _ i _ => s.size - (intOf i).toNat)
  case atStart => exact ⟨0, Nat.zero_le _, rfl, hown0, hb0 w (Below.refl _ _), hz0⟩
  case round =>
    clear hown0 hb0 hz0
    obtain ⟨k, hk, rfl, hr⟩ := hrel
    have HR := Lib.hid hr
    obtain ⟨hr3, -, hr5⟩ := hr
    have hsm := hexE_small s k hs
    by_cases hlt : k < s.size
    · have hbt : ((s[k]'hlt).toNat : Int) ≤ 255 := by have := (s[k]'hlt).toNat_lt; omega
      have hw5 := byte_and15 (s[k]'hlt)
      have hx1 : 0 ≤ ((s[k]'hlt).toNat : Int) / 16 := by omega
      have hx2 : ((s[k]'hlt).toNat : Int) / 16 < 16 := by omega
      have hx3 : 0 ≤ ((s[k]'hlt).toNat : Int) % 16 := by omega
      have hx4 : ((s[k]'hlt).toNat : Int) % 16 < 16 := by omega
      go_wp2_with fail
      go_region_law (refine step_byte2 (hr3.alloc _).drew (by simp; omega) (hexd ((s[k]'hlt).toNat / 16)) (hexd ((s[k]'hlt).toNat % 16)) (lit_div _ (by omega)) (lit_mod _ (by omega)) rfl rfl rfl rfl ?_ hsm ?_; exact (MapKept.heap_alloc _ _).1; intro v' w1 hown' hb hz)
      all_goals
        have HV := hrel_step hlt HR.out hown' (fun W hW => hb W ((hW.alloc hr5 _).drew)) hz
        clear hb hown'
        go_wp2_with fail
        go_roundw
        case rel => exact ⟨k + 1, by omega, by go_num, HV⟩
        case measure => simp [intOf]; omega
    · obtain rfl : k = s.size := by omega
      have hcv := convB hr3
      go_wp2_with fail
      go_ret
      rw [← hexE_all s]
      exact ⟨rfl, HR.out.2.1⟩
end Go.Proofs.YteknoaikgmlhcaaDoor
