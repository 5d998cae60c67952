/-
  DecodeVarint of the program: what each call returns.
-/
import Derived.Test.YteknoaikgmlhcaaDoorEncV
namespace Go.Proofs.YteknoaikgmlhcaaDoor
open Go.RowKit

/-- What both decoders answer: the number and the length of the prefix that is a varint, or twice 0. -/
def IsDec (l : List UInt8) (n k : Nat) : Prop := (Good l k ∧ k ≤ 7 ∧ n = vval (l.take k)) ∨ (n = 0 ∧ k = 0 ∧ ∀ j, j ≤ 7 → ¬ Good l j)

theorem isDec_one {l : List UInt8} {n k n' k' : Nat} (h : IsDec l n k) (h' : IsDec l n' k') : n = n' ∧ k = k' := by
  rcases h with ⟨h1, h2, h3⟩ | ⟨h1, h2, h3⟩
  · rcases h' with ⟨g1, g2, g3⟩ | ⟨g1, g2, g3⟩
    · have := good_one h1 g1
      subst this
      exact ⟨h3.trans g3.symm, rfl⟩
    · exact absurd h1 (g3 k h2)
  · rcases h' with ⟨g1, g2, g3⟩ | ⟨g1, g2, g3⟩
    · exact absurd g1 (h3 k' g2)
    · exact ⟨h1.trans g1.symm, h2.trans g2.symm⟩

theorem byte_getD (s : ByteArray) (k : Nat) (h : k < s.size) : s.data.toList.getD k 0 = s[k] := by
  have : s.data.toList[k]? = some s[k] := by
    rw [List.getElem?_eq_getElem (by simpa using h)]; rfl
  simp [List.getD, this]

/-- All bytes ahead of i go on. -/
def Ahead (l : List UInt8) (i : Nat) : Prop := ∀ j, j < i → 128 ≤ (l.getD j 0).toNat
theorem ahead_step {l : List UInt8} {i : Nat} (h : Ahead l i) (hb : 128 ≤ (l.getD i 0).toNat) : Ahead l (i + 1) := fun j hj => by
  rcases Nat.lt_or_ge j i with h' | h'
  · exact h j h'
  · have : j = i := by omega
    subst this; exact hb

theorem isDec_zero {l : List UInt8} {k : Nat} (ha : Ahead l k) (hb : (l.getD k 0).toNat = 0) (hk : 0 < k) : IsDec l 0 0 := by
  refine Or.inr ⟨rfl, rfl, fun j _ h => ?_⟩
  obtain ⟨g1, g2, g3, g4, g5⟩ := h
  rcases Nat.lt_trichotomy (j - 1) k with h | h | h
  · have := ha (j - 1) h; omega
  · rw [h] at g5; omega
  · have := g3 k (by omega); omega
theorem isDec_hit {l : List UInt8} {k : Nat} (ha : Ahead l k) (hl : k < l.length) (hk : k < 7) (hb : (l.getD k 0).toNat < 128) (hz : k = 0 ∨ (l.getD k 0).toNat ≠ 0) : IsDec l (vval (l.take (k + 1))) (k + 1) :=
  Or.inl ⟨⟨by omega, by omega, fun i hi => ha i (by omega), by simpa using hb, by simpa using hz⟩, by omega, rfl⟩
theorem isDec_end {l : List UInt8} {k : Nat} (ha : Ahead l k) (h : k = 7 ∨ k = l.length) : IsDec l 0 0 := by
  refine Or.inr ⟨rfl, rfl, fun j hj h' => ?_⟩
  obtain ⟨g1, g2, g3, g4, g5⟩ := h'
  have := ha (j - 1) (by omega)
  omega

/-- The two results are the number and the length. -/
def DecAns (s : ByteArray) (e : Ending) : Prop := ∃ n k : Nat, e = .returned (.tuple #[.int .i64 n, .int .i64 k]) ∧ IsDec s.data.toList n k

theorem vval_step (s : ByteArray) (k : Nat) (h : k < s.size) : vval (s.data.toList.take (k + 1)) = vval (s.data.toList.take k) + 128 ^ k * ((s[k]).toNat % 128) := by
  rw [take_snoc s k h, vval_snoc, List.length_take, Nat.min_eq_left (by simpa using Nat.le_of_lt h)]
theorem vval_take_lt (s : ByteArray) (k : Nat) : vval (s.data.toList.take k) < 128 ^ k :=
  Nat.lt_of_lt_of_le (vval_lt _) (Nat.pow_le_pow_right (by omega) (List.length_take_le _ _))

theorem dec_zero (s : ByteArray) (k : Nat) (h : k < s.size) (ha : Ahead s.data.toList k) (hb : (s[k]).toNat = 0) (hk : 0 < k) : DecAns s (.returned (.tuple #[.int .i64 0, .int .i64 0])) :=
  ⟨0, 0, rfl, isDec_zero ha (by rw [byte_getD s k h]; exact hb) hk⟩
theorem dec_hit (s : ByteArray) (k : Nat) (h : k < s.size) (hk : k < 7) (ha : Ahead s.data.toList k) (hb : (s[k]).toNat < 128) (hz : k = 0 ∨ (s[k]).toNat ≠ 0) (x : Int) (hx : x = ((vval (s.data.toList.take (k + 1)) : Nat) : Int)) :
    DecAns s (.returned (.tuple #[.int .i64 x, .int .i64 ((k : Int) + 1)])) :=
  ⟨_, k + 1, by rw [hx]; rfl, isDec_hit ha (by simpa using h) hk (by rw [byte_getD s k h]; exact hb) (by rw [byte_getD s k h]; exact hz)⟩
theorem dec_end (s : ByteArray) (k : Nat) (ha : Ahead s.data.toList k) (hk : k ≤ 7) (h : k = 7 ∨ k = s.size) : DecAns s (.returned (.tuple #[.int .i64 0, .int .i64 0])) :=
  ⟨0, 0, rfl, isDec_end ha (by simpa using h)⟩

set_option maxHeartbeats 400000 in
set_option maxRecDepth 100000 in
theorem decvi_long (s : ByteArray) (w : World) (hs : s.size ≤ maxLen) (h7 : 7 < s.size) :
    Calls Tryd.prog 10 #[.string s] w fun e w' => DecAns s e ∧ w = w' := by
  unfold maxLen at hs
  go_enter Tryd.func10, Tryd.ntmps10
  go_wp2_with fail
  go_loop [4, 9] (fun n i => ∃ k : Nat, k ≤ 7 ∧ i = .int .i64 k ∧ n = .int .i64 (vval (s.data.toList.take k)) ∧ Ahead s.data.toList k) (fun _ i => 7 - (intOf i).toNat)
  case atStart => exact ⟨0, Nat.zero_le _, rfl, rfl, fun j hj => by omega⟩
  case round =>
    obtain ⟨k, hk7, rfl, rfl, ha⟩ := hrel
    have HA := Lib.hid ha; clear ha
    by_cases hlt7 : k < 7
    · have hks : k < s.size := by omega
      have hv := vval_take_lt s k
      have HV := Lib.hid hv; clear hv
      have hst := vval_step s k hks
      have HS := Lib.hid hst; clear hst
      have hbt := (s[k]'hks).toNat_lt
      by_cases hb : 128 ≤ (s[k]'hks).toNat
      · go_wp2_with fail
        go_round
        case rel => exact ⟨k + 1, by omega, by go_num, by rw [HS.out, or_shift _ k _ _ rfl hbt HV.out (by omega)], ahead_step HA.out (by rw [byte_getD s k hks]; exact hb)⟩
        case measure => simp [intOf]; omega
      · go_wp2_with fail
        all_goals go_ret2
        · exact ⟨dec_zero s k hks HA.out (by assumption) (by assumption), rfl⟩
        · refine ⟨dec_hit s k hks (by omega) HA.out (by omega) (Or.inl (by omega)) _ ?_, rfl⟩
          rw [HS.out]
          exact or_shift _ k _ _ (by omega) hbt HV.out (by omega)
        · refine ⟨dec_hit s k hks (by omega) HA.out (by omega) (Or.inr (by omega)) _ ?_, rfl⟩
          rw [HS.out]
          exact or_shift _ k _ _ (by omega) hbt HV.out (by omega)
    · obtain rfl : k = 7 := by omega
      go_wp2_with fail
      go_ret2
      exact ⟨dec_end s _ HA.out (by omega) (by omega), rfl⟩

set_option maxHeartbeats 400000 in
set_option maxRecDepth 100000 in
theorem decvi_short (s : ByteArray) (w : World) (hs : s.size ≤ maxLen) (h7 : s.size ≤ 7) :
    Calls Tryd.prog 10 #[.string s] w fun e w' => DecAns s e ∧ w = w' := by
  unfold maxLen at hs
  go_enter Tryd.func10, Tryd.ntmps10
  go_wp2_with fail
  go_loop [4, 9] (fun n i => ∃ k : Nat, k ≤ s.size ∧ i = .int .i64 k ∧ n = .int .i64 (vval (s.data.toList.take k)) ∧ Ahead s.data.toList k) (fun _ i => s.size - (intOf i).toNat)
  case atStart => exact ⟨0, Nat.zero_le _, rfl, rfl, fun j hj => by omega⟩
  case round =>
    obtain ⟨k, hk7, rfl, rfl, ha⟩ := hrel
    have HA := Lib.hid ha; clear ha
    by_cases hlt7 : k < s.size
    · have hks : k < s.size := by omega
      have hv := vval_take_lt s k
      have HV := Lib.hid hv; clear hv
      have hst := vval_step s k hks
      have HS := Lib.hid hst; clear hst
      have hbt := (s[k]'hks).toNat_lt
      by_cases hb : 128 ≤ (s[k]'hks).toNat
      · go_wp2_with fail
        go_round
        case rel => exact ⟨k + 1, by omega, by go_num, by rw [HS.out, or_shift _ k _ _ rfl hbt HV.out (by omega)], ahead_step HA.out (by rw [byte_getD s k hks]; exact hb)⟩
        case measure => simp [intOf]; omega
      · go_wp2_with fail
        all_goals go_ret2
        · exact ⟨dec_zero s k hks HA.out (by assumption) (by assumption), rfl⟩
        · refine ⟨dec_hit s k hks (by omega) HA.out (by omega) (Or.inl (by omega)) _ ?_, rfl⟩
          rw [HS.out]
          exact or_shift _ k _ _ (by omega) hbt HV.out (by omega)
        · refine ⟨dec_hit s k hks (by omega) HA.out (by omega) (Or.inr (by omega)) _ ?_, rfl⟩
          rw [HS.out]
          exact or_shift _ k _ _ (by omega) hbt HV.out (by omega)
    · obtain rfl : k = s.size := by omega
      go_wp2_with fail
      go_ret2
      exact ⟨dec_end s _ HA.out (by omega) (by omega), rfl⟩


theorem decvi_any (s : ByteArray) (w : World) (hs : s.size ≤ maxLen) :
    Calls Tryd.prog 10 #[.string s] w fun e w' => DecAns s e ∧ w = w' := by
  rcases Nat.lt_or_ge 7 s.size with h | h
  · exact decvi_long s w hs h
  · exact decvi_short s w hs h
end Go.Proofs.YteknoaikgmlhcaaDoor
