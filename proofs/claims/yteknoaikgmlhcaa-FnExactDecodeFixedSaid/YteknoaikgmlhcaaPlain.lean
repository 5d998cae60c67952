/-
  Plain facts on numbers and bytes (no program): bit operations on small numbers.
-/
import Derived.WalkKit
import Derived.Laws.Bits64b
namespace Go.Proofs.Yteknoaikgmlhcaa
open Go.RowKit

theorem or_i64_nat (a b : Nat) (ha : a < 9223372036854775808) (hb : b < 9223372036854775808) :
    bits .or .i64 (a : Int) (b : Int) = ((a ||| b : Nat) : Int) := by
  have hx : a ||| b < 2 ^ 63 := Nat.or_lt_two_pow ha hb
  have h1 : (BitVec.ofInt 64 (a : Int)).toNat = a := by
    rw [BitVec.ofInt_natCast, BitVec.toNat_ofNat]; exact Nat.mod_eq_of_lt (by omega)
  have h2 : (BitVec.ofInt 64 (b : Int)).toNat = b := by
    rw [BitVec.ofInt_natCast, BitVec.toNat_ofNat]; exact Nat.mod_eq_of_lt (by omega)
  show IntKind.i64.wrap ((BitVec.ofInt 64 (a : Int) ||| BitVec.ofInt 64 (b : Int)).toNat : Int) = _
  rw [BitVec.toNat_or, h1, h2, IntKind.wrap_i64]
  omega

theorem or_low (a b i : Nat) (hb : b < 2 ^ i) : a * 2 ^ i ||| b = a * 2 ^ i + b := by
  have := Nat.two_pow_add_eq_or_of_lt hb a
  rw [Nat.mul_comm] ; omega

theorem or_byte (a b : Nat) (ha : a ≤ 281474976710655) (hb : b ≤ 255) : bits .or .i64 ((a : Int) * 256) (b : Int) = (a : Int) * 256 + b := by
  have h := or_i64_nat (a * 256) b (by omega) (by omega)
  have e := or_low a b 8 (by omega)
  rw [show ((a : Int) * 256) = ((a * 256 : Nat) : Int) by omega, h]
  rw [show (2 : Nat) ^ 8 = 256 from rfl] at e
  rw [e]; omega
end Go.Proofs.Yteknoaikgmlhcaa
