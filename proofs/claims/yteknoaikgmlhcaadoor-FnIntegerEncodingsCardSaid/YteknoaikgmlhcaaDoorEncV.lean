/-
  EncodeVarint of the model and of the program: what each call returns.
-/
import Derived.Test.YteknoaikgmlhcaaDoorBytes
import Derived.Test.YteknoaikgmlhcaaDoorDecF
import Derived.Test.YteknoaikgmlhcaaDoorVar
namespace Go.Proofs.YteknoaikgmlhcaaDoor
open Go.RowKit

/-- What the loop keeps: the bytes so far and those still to come are the number's. -/
def VRel (B n0 n : Nat) (xs : List UInt8) (v : Value) (w wr : World) : Prop := xs ++ vb n = vb n0 ∧ xs.length ≤ 6 ∧ OwnB wr B v xs ∧ Below B w wr ∧ B ≤ wr.heap.size

theorem vrel_step {B n0 n : Nat} {xs : List UInt8} {v v' : Value} {w wr w1 : World} (hn : 128 ≤ n) (h0 : n0 ≤ 562949953421311) (h : VRel B n0 n xs v w wr)
    (hown : OwnB w1 B v' (xs ++ [UInt8.ofNat (128 + n % 128)])) (hb : ∀ W, Below B W wr → Below B W w1) (hz : B ≤ w1.heap.size) : VRel B n0 (n / 128) (xs ++ [UInt8.ofNat (128 + n % 128)]) v' w w1 := by
  obtain ⟨h1, h2, h3, h4, h5⟩ := h
  have e : (xs ++ [UInt8.ofNat (128 + n % 128)]) ++ vb (n / 128) = vb n0 := by
    rw [← h1, vb_big (n := n) (by omega)]; simp
  have hl := congrArg List.length e
  have h7 := vb_len7 h0
  have hp : 1 ≤ (vb (n / 128)).length := by rw [vb]; split <;> simp
  simp only [List.length_append] at hl
  exact ⟨e, by simp only [List.length_append]; omega, hown, hb w h4, hz⟩

theorem vrel_end {B n0 n : Nat} {xs : List UInt8} {v : Value} {w wr : World} (hn : ¬ 128 ≤ n) (h : VRel B n0 n xs v w wr) : xs ++ [UInt8.ofNat n] = vb n0 := by
  rw [← h.1, vb_small (n := n) (by omega)]

set_option maxHeartbeats 400000 in
theorem encvi_no (n : Int) (w : World) (h : ¬ (0 ≤ n ∧ n ≤ 562949953421311)) :
    Calls Tryd.prog 9 #[.int .i64 n] w fun e w' => e = .returned (.string ⟨#[]⟩) ∧ w = w' := by
  by_cases h0 : n < 0
  · go_enter Tryd.func9, Tryd.ntmps9
    go_wp2
    go_ret
    exact ⟨rfl, rfl⟩
  · have h1 : 562949953421311 < n := by omega
    go_enter Tryd.func9, Tryd.ntmps9
    go_wp2
    go_ret
    exact ⟨rfl, rfl⟩

set_option maxHeartbeats 400000 in
set_option maxRecDepth 100000 in
theorem encvi_yes (n0 : Nat) (w : World) (h : n0 ≤ 562949953421311) :
    Calls Tryd.prog 9 #[.int .i64 n0] w fun e w' => e = .returned (.string ⟨(vb n0).toArray⟩) ∧ Below w.heap.size w w' := by
  go_enter Tryd.func9, Tryd.ntmps9
  go_wp2_with fail
  go_loopw [0, 3] (fun nv v wr => ∃ (n : Nat) (xs : List UInt8), n ≤ n0 ∧ nv = .int .i64 n ∧ VRel w.heap.size n0 n xs v w wr) (fun nv _ _ => (intOf nv).toNat)
  case atStart => exact ⟨n0, [], Nat.le_refl _, rfl, rfl, by simp, ownB_nil w _, Below.refl _ _, Nat.le_refl _⟩
  case round =>
    obtain ⟨n, xs, hn, rfl, hr⟩ := hrel
    have HR := Lib.hid hr
    obtain ⟨-, hr2, hr3, hr4, hr5⟩ := hr
    clear hr4
    have hu1 : ((UInt8.ofNat (128 + n % 128)).toNat : Int) = 128 + (n : Int) % 128 := by rw [u8_nat _ (by omega)]; omega
    have HU1 := Lib.hid hu1
    clear hu1
    by_cases hlt : 128 ≤ n
    · have hbits := and127_or128 n
      go_wp2_with (at_builtin; go_must (refine append_byte hr3 hr5 (UInt8.ofNat (128 + n % 128)) HU1.out rfl rfl rfl rfl (by omega) ?_; intro v' w1 hown' hb hz))
      have HV := vrel_step hlt h HR.out hown' hb hz
      go_roundw
      case rel => exact ⟨n / 128, _, by omega, by go_num, HV⟩
      case measure => simp [intOf]; omega
    · go_wp2_with (at_builtin; go_must (refine append_byte hr3 hr5 (UInt8.ofNat n) (u8_nat _ (by omega)) rfl rfl rfl rfl (by omega) ?_; intro v' w1 hown' hb hz; have hcv := convB hown'))
      go_ret
      refine ⟨?_, hb w HR.out.2.2.2.1⟩
      rw [vrel_end hlt HR.out]; rfl
end Go.Proofs.YteknoaikgmlhcaaDoor
