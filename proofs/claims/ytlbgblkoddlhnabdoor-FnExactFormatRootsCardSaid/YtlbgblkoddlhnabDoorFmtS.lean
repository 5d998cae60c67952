/-
  FormatInt of the model and of the program: what each call returns.
-/
import Derived.Test.YtlbgblkoddlhnabDoorBytes
import Derived.Test.YtlbgblkoddlhnabDoorVar
import Derived.Lib.ItoaNum
namespace Go.Proofs.YtlbgblkoddlhnabDoor
open Go.RowKit

theorem dec_small {u : Nat} (h : u < 10) : Lib.decDigits u = [UInt8.ofNat (48 + u)] := by rw [Lib.decDigits, dif_pos h]
theorem dec_big {u : Nat} (h : ¬ u < 10) : Lib.decDigits u = Lib.decDigits (u / 10) ++ [UInt8.ofNat (48 + u % 10)] := by rw [Lib.decDigits, dif_neg h]

/-- What the loop keeps: q is still to be written, out is written. -/
def DRel (n q : Nat) (s : ByteArray) : Prop := (0 < q ∧ Lib.decDigits q ++ s.data.toList = Lib.decDigits n) ∨ (q = 0 ∧ s.data.toList = Lib.decDigits n)
theorem drel_step {n q : Nat} {s : ByteArray} (hq : 0 < q) (h : DRel n q s) : DRel n (q / 10) (⟨#[UInt8.ofNat (48 + q % 10)]⟩ ++ s) := by
  rcases h with ⟨_, h⟩ | ⟨h, _⟩
  · have e : ((⟨#[UInt8.ofNat (48 + q % 10)]⟩ : ByteArray) ++ s).data.toList = UInt8.ofNat (48 + q % 10) :: s.data.toList := by rw [str_app]; rfl
    by_cases hs : q < 10
    · refine Or.inr ⟨by omega, ?_⟩
      rw [dec_small hs] at h
      rw [e, ← h, Nat.mod_eq_of_lt hs]; rfl
    · refine Or.inl ⟨by omega, ?_⟩
      rw [dec_big hs] at h
      rw [e, ← h]; simp
  · omega

theorem drel_end {n : Nat} {s : ByteArray} (h : DRel n 0 s) : s.data.toList = Lib.decDigits n := by
  rcases h with ⟨h, _⟩ | ⟨_, h⟩
  · omega
  · exact h

set_option maxHeartbeats 400000 in
set_option maxRecDepth 100000 in
theorem fmts_pos (n : Nat) (w : World) (h0 : 0 < n) (h1 : n ≤ 9223372036854775807) :
    Calls Tryd.prog 15 #[.int .i64 n] w fun e w' => e = .returned (.string ⟨(Lib.decDigits n).toArray⟩) ∧ Below w.heap.size w w' := by
  have hz : ((n : Int) == 0) = false := by rw [beq_eq_false_iff_ne]; omega
  have hneg : decide ((n : Int) < 0) = false := by simp
  go_enter Tryd.func15, Tryd.ntmps15
  go_wp2_with fail
  go_loopw [0, 3, 5] (fun a o _ wr => ∃ (q : Nat) (s : ByteArray), a = .int .i64 q ∧ o = .string s ∧ q ≤ n ∧ s.size + q ≤ n ∧ DRel n q s ∧ Below w.heap.size w wr ∧ w.heap.size ≤ wr.heap.size) (fun a _ _ _ => (intOf a).toNat)
  case atStart => exact ⟨n, ⟨#[]⟩, rfl, rfl, Nat.le_refl _, Nat.le_of_eq (Nat.zero_add _), Or.inl ⟨h0, by simp⟩, Below.refl _ _, Nat.le_refl _⟩
  case round =>
    obtain ⟨q, s, rfl, rfl, hq, hs, hr, hb, hz2⟩ := hrel
    have HR := Lib.hid hr; clear hr
    have HB := Lib.hid hb; clear hb
    by_cases hq0 : 0 < q
    · have hne : ((q : Int) != 0) = true := by rw [bne_iff_ne]; omega
      rename_i wr
      obtain ⟨b, hbq, hbu⟩ : ∃ b : UInt8, b = UInt8.ofNat (48 + q % 10) ∧ (b.toNat : Int) = 48 + (q : Int) % 10 := ⟨_, rfl, by rw [u8_nat _ (by omega)]; omega⟩
      have HBQ := Lib.hid hbq; clear hbq
      have hcv := conv_byte wr b hbu
      clear hbu
      have hst := drel_step hq0 HR.out
      rw [← HBQ.out] at hst
      have HST := Lib.hid hst; clear hst
      go_wp2_with fail
      refine ⟨⟨q / 10, _, by go_num, rfl, by omega, ?_, HST.out, HB.out.alloc hz2 _, by simp; omega⟩, by simp [intOf]; omega⟩
      rw [str_app_size]; omega
    · obtain rfl : q = 0 := by omega
      go_wp2_with fail
      go_ret
      exact ⟨ret_string (str_of (drel_end HR.out)), HB.out⟩

theorem itoa_pos (n : Nat) : Lib.itoa (n : Int) = Lib.decDigits n := by unfold Lib.itoa; rw [if_neg (by omega), Int.toNat_natCast]
theorem itoa_neg (n : Nat) (h : 0 < n) : Lib.itoa (-(n : Int)) = 45 :: Lib.decDigits n := by
  unfold Lib.itoa; rw [if_pos (by omega), Int.natAbs_neg, Int.natAbs_natCast]

theorem neg_tmod (q : Nat) : (-(q : Int)).tmod 10 = -((q : Int) % 10) := by
  rw [Int.neg_tmod, Int.tmod_eq_emod_of_nonneg (by omega)]
theorem neg_tdiv (q : Nat) : (-(q : Int)).tdiv 10 = -((q : Int) / 10) := by
  rw [Int.neg_tdiv, Int.tdiv_eq_ediv_of_nonneg (by omega)]

set_option maxHeartbeats 400000 in
set_option maxRecDepth 100000 in
theorem fmts_neg (n : Nat) (w : World) (h0 : 0 < n) (h1 : n ≤ 9223372036854775808) :
    Calls Tryd.prog 15 #[.int .i64 (-(n : Int))] w fun e w' => e = .returned (.string ⟨(45 :: Lib.decDigits n).toArray⟩) ∧ Below w.heap.size w w' := by
  have hz : (-(n : Int) == 0) = false := by rw [beq_eq_false_iff_ne]; omega
  have hneg : decide (-(n : Int) < 0) = true := by rw [decide_eq_true_eq]; omega
  go_enter Tryd.func15, Tryd.ntmps15
  go_wp2_with fail
  go_loopw [0, 3, 5] (fun a o _ wr => ∃ (q : Nat) (s : ByteArray), a = .int .i64 (-(q : Int)) ∧ o = .string s ∧ q ≤ n ∧ (s.size = 0 ∨ s.size + q ≤ n / 10 + 1) ∧ DRel n q s ∧ Below w.heap.size w wr ∧ w.heap.size ≤ wr.heap.size) (fun a _ _ _ => (-(intOf a)).toNat)
  case atStart => exact ⟨n, ⟨#[]⟩, rfl, rfl, Nat.le_refl _, Or.inl rfl, Or.inl ⟨h0, by simp⟩, Below.refl _ _, Nat.le_refl _⟩
  case round =>
    obtain ⟨q, s, rfl, rfl, hq, hs, hr, hb, hz2⟩ := hrel
    have HR := Lib.hid hr; clear hr
    have HB := Lib.hid hb; clear hb
    have ht := neg_tmod q
    have hd := neg_tdiv q
    by_cases hq0 : 0 < q
    · have hne : (-(q : Int) != 0) = true := by rw [bne_iff_ne]; omega
      rename_i wr
      have hs1 : s.size ≤ n / 10 + 1 := by omega
      have HS := Lib.hid hs; clear hs
      obtain ⟨b, hbq, hbu⟩ : ∃ b : UInt8, b = UInt8.ofNat (48 + q % 10) ∧ (b.toNat : Int) = 48 + (q : Int) % 10 := ⟨_, rfl, by rw [u8_nat _ (by omega)]; omega⟩
      have HBQ := Lib.hid hbq; clear hbq
      have hst := drel_step hq0 HR.out
      rw [← HBQ.out] at hst
      have HST := Lib.hid hst; clear hst
      by_cases hm : (q : Int) % 10 = 0
      · have hcv := conv_byte wr b (u := 48 + -((q : Int) % 10)) (by omega)
        have hm1 : (q : Int) % 10 ≤ 0 := by omega
        clear hm hbu
        go_wp2_with fail
        refine ⟨⟨q / 10, _, by go_num, rfl, by omega, Or.inr ?_, HST.out, HB.out.alloc hz2 _, by simp; omega⟩, by simp [intOf]; omega⟩
        have := HS.out
        rw [str_app_size]; omega
      · have hcv := conv_byte wr b hbu
        have hm1 : 0 < (q : Int) % 10 := by omega
        clear hm hbu
        go_wp2_with fail
        refine ⟨⟨q / 10, _, by go_num, rfl, by omega, Or.inr ?_, HST.out, HB.out.alloc hz2 _, by simp; omega⟩, by simp [intOf]; omega⟩
        have := HS.out
        rw [str_app_size]; omega
    · obtain rfl : q = 0 := by omega
      have hs1 : s.size ≤ n / 10 + 1 := by omega
      clear hs
      go_wp2_with fail
      go_ret
      refine ⟨ret_string (str_of ?_), HB.out⟩
      rw [str_app, drel_end HR.out]; rfl

set_option maxHeartbeats 400000 in
theorem fmts_zero (w : World) :
    Calls Tryd.prog 15 #[.int .i64 0] w fun e w' => e = .returned (.string ⟨(Lib.itoa 0).toArray⟩) ∧ Below w.heap.size w w' := by
  have hi : Lib.itoa 0 = [48] := by
    have := itoa_pos 0
    rw [dec_small (by omega)] at this
    exact this
  have HI := Lib.hid hi; clear hi
  go_enter Tryd.func15, Tryd.ntmps15
  go_wp2
  go_ret
  rw [HI.out]
  exact ⟨rfl, Below.refl _ _⟩

theorem fmts_any (n : Int) (w : World) (h0 : -9223372036854775808 ≤ n) (h1 : n ≤ 9223372036854775807) :
    Calls Tryd.prog 15 #[.int .i64 n] w fun e w' => e = .returned (.string ⟨(Lib.itoa n).toArray⟩) ∧ Below w.heap.size w w' := by
  rcases Int.lt_trichotomy n 0 with h | h | h
  · obtain ⟨m, rfl⟩ : ∃ m : Nat, n = -(m : Int) := ⟨n.natAbs, by omega⟩
    rw [itoa_neg m (by omega)]
    exact fmts_neg m w (by omega) (by omega)
  · subst h
    exact fmts_zero w
  · obtain ⟨m, rfl⟩ := Int.eq_ofNat_of_zero_le (show 0 ≤ n by omega)
    rw [itoa_pos m]
    exact fmts_pos m w (by omega) (by omega)
end Go.Proofs.YtlbgblkoddlhnabDoor
