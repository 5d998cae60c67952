/-
  Plain facts on numbers and bytes (no program): bit operations on small numbers.
-/
import Derived.WalkKit
import Derived.Laws.Bits64b
import Derived.Laws.Bits128
import Derived.Laws.BitsAllLaws
namespace Go.Proofs.YtlbgblkoddlhnabDoor
open Go.RowKit

theorem or_i64_nat (a b : Nat) (ha : a < 9223372036854775808) (hb : b < 9223372036854775808) :
    bits .or .i64 (a : Int) (b : Int) = ((a ||| b : Nat) : Int) := by
  have hx : a ||| b < 2 ^ 63 := Nat.or_lt_two_pow ha hb
  have h1 : (BitVec.ofInt 64 (a : Int)).toNat = a := by
    rw [BitVec.ofInt_natCast, BitVec.toNat_ofNat]; exact Nat.mod_eq_of_lt (by omega)
  have h2 : (BitVec.ofInt 64 (b : Int)).toNat = b := by
    rw [BitVec.ofInt_natCast, BitVec.toNat_ofNat]; exact Nat.mod_eq_of_lt (by omega)
  show IntKind.i64.wrap ((BitVec.ofInt 64 (a : Int) ||| BitVec.ofInt 64 (b : Int)).toNat : Int) = _
  rw [BitVec.toNat_or, h1, h2, IntKind.wrap_i64]
  omega

theorem or_low (a b i : Nat) (hb : b < 2 ^ i) : a * 2 ^ i ||| b = a * 2 ^ i + b := by
  have := Nat.two_pow_add_eq_or_of_lt hb a
  rw [Nat.mul_comm] ; omega

theorem or_byte (a b : Nat) (ha : a ≤ 281474976710655) (hb : b ≤ 255) : bits .or .i64 ((a : Int) * 256) (b : Int) = (a : Int) * 256 + b := by
  have h := or_i64_nat (a * 256) b (by omega) (by omega)
  have e := or_low a b 8 (by omega)
  rw [show ((a : Int) * 256) = ((a * 256 : Nat) : Int) by omega, h]
  rw [show (2 : Nat) ^ 8 = 256 from rfl] at e
  rw [e]; omega

theorem and127_or128 (n : Nat) : bits .or .i64 (bits .and .i64 (n : Int) 127) 128 = 128 + (n : Int) % 128 := by
  rw [i64_and127]
  have h := or_i64_nat (n % 128) 128 (by omega) (by omega)
  have e : (n % 128) ||| 128 = n % 128 + 128 := by
    have := or_low 1 (n % 128) 7 (by omega)
    rw [Nat.or_comm]; simpa [Nat.add_comm] using this
  rw [e] at h
  rw [show ((n : Int) % 128) = ((n % 128 : Nat) : Int) by omega]
  rw [show (128 : Int) = ((128 : Nat) : Int) from rfl, h]
  omega

theorem pow128 (k : Nat) : 2 ^ (7 * k) = 128 ^ k := by rw [Nat.pow_mul]

theorem or_shift (v k : Nat) (B : Int) (b : Nat) (hB : B = b) (hb : b < 256) (hv : v < 128 ^ k) (hk : k < 7) :
    bits .or .i64 (v : Int) (wrap64 (wrap64 (bits .and .u8 B 127) * 2 ^ (7 * k))) = ((v + 128 ^ k * (b % 128) : Nat) : Int) := by
  subst hB
  have e1 : bits .and .u8 (b : Int) 127 = ((b % 128 : Nat) : Int) := by
    have := u8_and_nat b 127 hb (by omega)
    rw [show ((127 : Nat) : Int) = 127 from rfl] at this
    rw [this, show b &&& 127 = b % 128 from Nat.and_two_pow_sub_one_eq_mod b 7]
  have hp : 128 ^ k ≤ 128 ^ 6 := Nat.pow_le_pow_right (by omega) (by omega)
  have hp6 : (128 : Nat) ^ 6 = 4398046511104 := by decide
  have hm : (b % 128) * 128 ^ k ≤ 127 * 4398046511104 := Nat.mul_le_mul (by omega) (by omega)
  have e2 : wrap64 ((b % 128 : Nat) : Int) = ((b % 128 : Nat) : Int) := IntWalk.wrap64_in _ ⟨by omega, by omega⟩
  have e3 : (2 : Int) ^ (7 * k) = ((128 ^ k : Nat) : Int) := by
    rw [← pow128]; simp
  have e4 : wrap64 (((b % 128 : Nat) : Int) * ((128 ^ k : Nat) : Int)) = (((b % 128) * 128 ^ k : Nat) : Int) := by
    rw [← Int.natCast_mul]
    exact IntWalk.wrap64_in _ ⟨by omega, by omega⟩
  rw [e1, e2, e3, e4, or_i64_nat _ _ (by omega) (by omega), Nat.or_comm]
  rw [← pow128] at hv ⊢
  rw [or_low _ _ _ hv, Nat.mul_comm, Nat.add_comm]

/-- A byte in a region that draws its order: the wraps that the walk leaves there. -/
theorem byte_wrap (b : UInt8) : IntKind.i64.wrap (b.toNat : Int) = (b.toNat : Int) := IntWalk.i64_in _ (by have := b.toNat_lt; omega)
theorem byte_tdiv16 (b : UInt8) : ((b.toNat : Int)).tdiv 16 = (b.toNat : Int) / 16 := Int.tdiv_eq_ediv_of_nonneg (by omega)
theorem byte_tmod16 (b : UInt8) : ((b.toNat : Int)).tmod 16 = (b.toNat : Int) % 16 := Int.tmod_eq_emod_of_nonneg (by omega)
theorem byte_wrap16 (b : UInt8) : IntKind.i64.wrap ((b.toNat : Int) / 16) = (b.toNat : Int) / 16 := IntWalk.i64_in _ (by have := b.toNat_lt; omega)

theorem byte_and15 (b : UInt8) : bits .and .u8 (b.toNat : Int) 15 = (b.toNat : Int) % 16 := by
  have := u8_and_nat b.toNat 15 b.toNat_lt (by omega)
  rw [show ((15 : Nat) : Int) = 15 from rfl] at this
  rw [this, show b.toNat &&& 15 = b.toNat % 16 from Nat.and_two_pow_sub_one_eq_mod b.toNat 4]
  omega

theorem nib_or (a b : Nat) (ha : a ≤ 15) (hb : b ≤ 15) : bits .or .u8 ((a : Int) * 16) (b : Int) = ((16 * a + b : Nat) : Int) := by
  have h := u8_or_nat (a * 16) b (by omega) (by omega)
  have e := or_low a b 4 (by omega)
  rw [show (2 : Nat) ^ 4 = 16 from rfl] at e
  rw [show ((a : Int) * 16) = ((a * 16 : Nat) : Int) by omega, h, e]
  omega
end Go.Proofs.YtlbgblkoddlhnabDoor
