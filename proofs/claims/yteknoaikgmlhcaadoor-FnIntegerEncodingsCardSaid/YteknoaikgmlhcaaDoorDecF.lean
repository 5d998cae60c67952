/-
  The functions of DecodeFixed, both of the program and of the model: what each call returns.
-/
import Derived.Test.YteknoaikgmlhcaaDoorRows
import Derived.Test.YteknoaikgmlhcaaDoorPlain
import Derived.Handy
import Derived.PlainAid
import Derived.Lib.Hide
import Derived.BigQuiet
import Derived.Deep.QuietTactic
namespace Go.Proofs.YteknoaikgmlhcaaDoor
open Go.RowKit

def fixN (l : List UInt8) : Nat := l.foldl (fun n b => n * 256 + b.toNat) 0
theorem fixN_snoc (l : List UInt8) (c : UInt8) : fixN (l ++ [c]) = fixN l * 256 + c.toNat := by simp [fixN]
theorem fixN_lt_from (l : List UInt8) : ∀ a : Nat, l.foldl (fun n b => n * 256 + b.toNat) a + 1 ≤ (a + 1) * 256 ^ l.length := by
  induction l with
  | nil => intro a; simp
  | cons c l ih =>
    intro a
    have h := ih (a * 256 + c.toNat)
    have hc := c.toNat_lt
    simp only [List.foldl_cons, List.length_cons, Nat.pow_succ]
    have h2 : (a * 256 + c.toNat + 1) * 256 ^ l.length ≤ ((a + 1) * 256) * 256 ^ l.length := Nat.mul_le_mul_right _ (by omega)
    have e : (a + 1) * (256 ^ l.length * 256) = ((a + 1) * 256) * 256 ^ l.length := by rw [Nat.mul_comm (256 ^ l.length) 256, Nat.mul_assoc]
    omega
theorem fixN_lt (l : List UInt8) : fixN l < 256 ^ l.length := by
  have := fixN_lt_from l 0; unfold fixN; omega
theorem take_snoc (s : ByteArray) (k : Nat) (h : k < s.size) : s.data.toList.take (k + 1) = s.data.toList.take k ++ [s[k]] := by
  rw [List.take_succ_eq_append_getElem (by simpa using h)]; rfl
theorem fixN_step (s : ByteArray) (k : Nat) (h : k < s.size) : fixN (s.data.toList.take (k + 1)) = fixN (s.data.toList.take k) * 256 + (s[k]).toNat := by
  rw [take_snoc s k h, fixN_snoc]
theorem fixN_small (s : ByteArray) (k : Nat) (h : k ≤ 7) : (fixN (s.data.toList.take k) : Int) ≤ 72057594037927935 := by
  have h1 := fixN_lt (s.data.toList.take k)
  have h2 : (s.data.toList.take k).length ≤ 7 := by have := List.length_take_le k s.data.toList; omega
  have h3 : 256 ^ (s.data.toList.take k).length ≤ 256 ^ 7 := Nat.pow_le_pow_right (by omega) h2
  have : (256 : Nat) ^ 7 = 72057594037927936 := by decide
  omega
theorem fixN_small' (s : ByteArray) (k : Nat) (h : k ≤ 6) : (fixN (s.data.toList.take k) : Int) ≤ 281474976710655 := by
  have h1 := fixN_lt (s.data.toList.take k)
  have h2 : (s.data.toList.take k).length ≤ 6 := by have := List.length_take_le k s.data.toList; omega
  have h3 : 256 ^ (s.data.toList.take k).length ≤ 256 ^ 6 := Nat.pow_le_pow_right (by omega) h2
  have : (256 : Nat) ^ 6 = 281474976710656 := by decide
  omega

theorem retb {a b : Bool} (h : a = b) : Ending.returned (.bool a) = .returned (.bool b) := by rw [h]

set_option maxHeartbeats 400000 in
theorem in_any (x a b : Int) (w : World) :
    Calls Tryd.prog 26 #[.int .i64 x, .int .i64 a, .int .i64 b] w fun e w' => e = .returned (.bool (decide (a ≤ x ∧ x ≤ b))) ∧ w = w' := by
  go_enter Tryd.func26, Tryd.ntmps26
  go_wp2
  all_goals (go_ret; exact ⟨retb (by simp; try omega), rfl⟩)

theorem in_yes (x a b : Int) (w : World) (h : a ≤ x) (h' : x ≤ b) :
    Calls Tryd.prog 26 #[.int .i64 x, .int .i64 a, .int .i64 b] w fun e w' => e = .returned (.bool true) ∧ w = w' :=
  (in_any x a b w).mono fun e w' ⟨he, hw⟩ => ⟨he.trans (retb (by simp [h, h'])), hw⟩
theorem in_no (x a b : Int) (w : World) (h : ¬ (a ≤ x ∧ x ≤ b)) :
    Calls Tryd.prog 26 #[.int .i64 x, .int .i64 a, .int .i64 b] w fun e w' => e = .returned (.bool false) ∧ w = w' :=
  (in_any x a b w).mono fun e w' ⟨he, hw⟩ => ⟨he.trans (retb (by simp only [h, decide_false])), hw⟩

set_option maxHeartbeats 400000 in
theorem isw_any (x : Int) (w : World) :
    Calls Tryd.prog 25 #[.int .i64 x] w fun e w' => e = .returned (.bool (decide (1 ≤ x ∧ x ≤ 7))) ∧ w = w' := by
  go_enter Tryd.func25, Tryd.ntmps25
  go_wp2
  all_goals (go_ret; exact ⟨retb (by simp; try omega), rfl⟩)

theorem isw_yes (x : Int) (w : World) (h : 1 ≤ x) (h' : x ≤ 7) :
    Calls Tryd.prog 25 #[.int .i64 x] w fun e w' => e = .returned (.bool true) ∧ w = w' :=
  (isw_any x w).mono fun e w' ⟨he, hw⟩ => ⟨he.trans (retb (by simp [h, h'])), hw⟩
theorem isw_no (x : Int) (w : World) (h : ¬ (1 ≤ x ∧ x ≤ 7)) :
    Calls Tryd.prog 25 #[.int .i64 x] w fun e w' => e = .returned (.bool false) ∧ w = w' :=
  (isw_any x w).mono fun e w' ⟨he, hw⟩ => ⟨he.trans (retb (by simp only [h, decide_false])), hw⟩
set_option maxHeartbeats 400000 in
theorem deci_no (s : ByteArray) (n : Int) (w : World) (hs : s.size ≤ maxLen) (h : ¬ (1 ≤ n ∧ n ≤ 7)) :
    Calls Tryd.prog 13 #[.string s, .int .i64 n] w fun e w' => e = .returned (.tuple #[.int .i64 0, .bool false]) ∧ w = w' := by
  go_enter Tryd.func13, Tryd.ntmps13
  go_wp2_with (go_at_call 25; refine (isw_no _ _ h).mono ?_; rintro e w' ⟨rfl, rfl⟩)
  go_ret2
  exact ⟨rfl, rfl⟩

set_option maxHeartbeats 400000 in
theorem deci_short (s : ByteArray) (n : Int) (w : World) (hs : s.size ≤ maxLen) (h1 : 1 ≤ n) (h2 : n ≤ 7) (h3 : (s.size : Int) < n) :
    Calls Tryd.prog 13 #[.string s, .int .i64 n] w fun e w' => e = .returned (.tuple #[.int .i64 0, .bool false]) ∧ w = w' := by
  unfold maxLen at hs
  go_enter Tryd.func13, Tryd.ntmps13
  go_wp2_with (go_at_call 25; refine (isw_yes _ _ h1 h2).mono ?_; rintro e w' ⟨rfl, rfl⟩)
  go_ret2
  exact ⟨rfl, rfl⟩

set_option maxHeartbeats 400000 in
theorem deci_yes (s : ByteArray) (m : Nat) (w : World) (hs : s.size ≤ maxLen) (h1 : 1 ≤ m) (h2 : m ≤ 7) (h3 : m ≤ s.size) :
    Calls Tryd.prog 13 #[.string s, .int .i64 m] w fun e w' => e = .returned (.tuple #[.int .i64 (fixN (s.data.toList.take m)), .bool true]) ∧ w = w' := by
  unfold maxLen at hs
  have hd : decide (s.size < m) = false := by simp; omega
  go_enter Tryd.func13, Tryd.ntmps13
  go_wp2_with (go_at_call 25; refine (isw_yes _ _ (by omega) (by omega)).mono ?_; rintro e w' ⟨rfl, rfl⟩)
  go_loop [6, 18] (fun n i => ∃ k : Nat, k ≤ m ∧ i = .int .i64 k ∧ n = .int .i64 (fixN (s.data.toList.take k))) (fun _ i => m - (intOf i).toNat)
  case atStart => exact ⟨0, Nat.zero_le _, rfl, rfl⟩
  case round =>
    obtain ⟨k, hk, rfl, rfl⟩ := hrel
    by_cases hlt : k < m
    · have hb := fixN_small' s k (by omega)
      have hst := fixN_step s k (by omega)
      have HS := Lib.hid hst; clear hst
      have hc : ((s[k]'(by omega)).toNat : Int) ≤ 255 := by have := (s[k]'(by omega)).toNat_lt; omega
      go_wp2
      go_round
      case rel => exact ⟨k + 1, by omega, by go_num, by rw [HS.out, or_byte _ _ (by omega) (by omega)]; go_num⟩
      case measure => simp [intOf]; omega
    · obtain rfl : k = m := by omega
      go_wp2
      go_ret2
      exact ⟨rfl, rfl⟩
end Go.Proofs.YteknoaikgmlhcaaDoor
