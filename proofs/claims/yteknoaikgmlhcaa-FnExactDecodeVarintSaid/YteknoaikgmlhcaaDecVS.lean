/-
  DecodeVarint of the model: what each call returns.
-/
import Derived.Test.YteknoaikgmlhcaaDecVI
import Derived.Deep.RegionWith
namespace Go.Proofs.Yteknoaikgmlhcaa
open Go.RowKit

theorem vval_drop (s : ByteArray) (k m : Nat) (hm : m < k) (hk : k ≤ s.size) : vval ((s.data.toList.take k).drop m) = (s[m]'(by omega)).toNat % 128 + 128 * vval ((s.data.toList.take k).drop (m + 1)) := by
  have hl : m < (s.data.toList.take k).length := by rw [List.length_take]; simp; omega
  rw [List.drop_eq_getElem_cons hl, vval]
  have : (s.data.toList.take k)[m] = s[m]'(by omega) := by rw [List.getElem_take]; rfl
  rw [this]
theorem vval_drop_lt (s : ByteArray) (k m : Nat) (hk : k ≤ 7) (hm : 1 ≤ m) : vval ((s.data.toList.take k).drop m) ≤ 4398046511103 := by
  have h := vval_lt ((s.data.toList.take k).drop m)
  have hl : ((s.data.toList.take k).drop m).length ≤ 6 := by
    rw [List.length_drop]; have := List.length_take_le k s.data.toList; omega
  have hp : 128 ^ ((s.data.toList.take k).drop m).length ≤ 128 ^ 6 := Nat.pow_le_pow_right (by omega) hl
  have hp6 : (128 : Nat) ^ 6 = 4398046511104 := by decide
  omega
theorem vval_take_le (s : ByteArray) (k : Nat) (hk : k ≤ 7) : vval (s.data.toList.take k) ≤ 562949953421311 := by
  have h := vval_take_lt s k
  have hp : 128 ^ k ≤ 128 ^ 7 := Nat.pow_le_pow_right (by omega) hk
  have hp7 : (128 : Nat) ^ 7 = 562949953421312 := by decide
  omega

theorem not_step {l : List UInt8} {m : Nat} (h : ∀ j, j < m → ¬ Good l j) (hm : ¬ Good l m) : ∀ j, j < m + 1 → ¬ Good l j := fun j hj => by
  rcases Nat.lt_or_ge j m with h' | h'
  · exact h j h'
  · have : j = m := by omega
    subst this; exact hm
theorem not_end {l : List UInt8} {m : Nat} (h : ∀ j, j < m → ¬ Good l j) (hm : 8 ≤ m ∨ l.length < m) : IsDec l 0 0 := by
  refine Or.inr ⟨rfl, rfl, fun j hj hg => ?_⟩
  rcases Nat.lt_or_ge j m with h' | h'
  · exact h j h' hg
  · have := hg.2.1; omega
theorem extract_take (s : ByteArray) (m : Nat) : (s.extract 0 m).toList = s.data.toList.take m := by
  rw [ByteArray.toList_eq]; simp
theorem cmp_yes (s : ByteArray) (m : Nat) (h1 : 1 ≤ m) (h2 : m ≤ s.size) (hg : Good s.data.toList m) : (vb (vval (s.data.toList.take m)) == (s.extract 0 m).toList) = true := by
  rw [extract_take, beq_iff_eq]
  exact (vb_good m _ h1 (by simpa using h2)).2 hg
theorem cmp_no (s : ByteArray) (m : Nat) (h1 : 1 ≤ m) (h2 : m ≤ s.size) (hg : ¬ Good s.data.toList m) : (vb (vval (s.data.toList.take m)) == (s.extract 0 m).toList) = false := by
  rw [extract_take, beq_eq_false_iff_ne]
  exact fun e => hg ((vb_good m _ h1 (by simpa using h2)).1 e)

set_option maxHeartbeats 400000 in
set_option maxRecDepth 100000 in
theorem decvs_any (s : ByteArray) (w : World) (hs : s.size ≤ maxLen) :
    Calls Try.prog 15 #[.string s] w fun e w' => DecAns s e ∧ Below w.heap.size w w' := by
  unfold maxLen at hs
  go_enter Try.func15, Try.ntmps15
  go_wp2_with fail
  go_loopw [4] (fun k wr => ∃ m : Nat, 1 ≤ m ∧ m ≤ 8 ∧ m ≤ s.size + 1 ∧ k = .int .i64 m ∧ (∀ j, j < m → ¬ Good s.data.toList j) ∧ Below w.heap.size w wr ∧ w.heap.size ≤ wr.heap.size) (fun k _ => 8 - (intOf k).toNat)
  case atStart => exact ⟨1, by omega, by omega, by omega, rfl, fun j hj h => by have := h.1; omega, Below.refl _ _, Nat.le_refl _⟩
  case round =>
    obtain ⟨m, hm1, hm8, hms, rfl, hng, hb, hz⟩ := hrel
    have HN := Lib.hid hng; clear hng
    have HB := Lib.hid hb; clear hb
    by_cases hlt : m ≤ 7 ∧ m ≤ s.size
    · obtain ⟨hm7, hms'⟩ := hlt
      have hd0 : vval ((s.data.toList.take m).drop m) = 0 := by
        have : (s.data.toList.take m).drop m = [] := List.drop_eq_nil_of_le (List.length_take_le _ _)
        rw [this]; rfl
      have HD0 := Lib.hid hd0; clear hd0
      go_wp2_with fail
      rename_i wr
      go_loop [5, 6] (fun n i => ∃ j : Nat, j ≤ m ∧ i = .int .i64 ((j : Int) - 1) ∧ n = .int .i64 (vval ((s.data.toList.take m).drop j))) (fun _ i => (intOf i + 1).toNat)
      case atStart => exact ⟨m, Nat.le_refl _, rfl, by rw [HD0.out]; rfl⟩
      case round =>
        obtain ⟨j, hj, rfl, rfl⟩ := hrel
        by_cases hj0 : j = 0
        · subst hj0
          have hvm := vval_take_le s m hm7
          by_cases hg : Good s.data.toList m
          · have HG := Lib.hid hg; clear hg
            have hq := cmp_yes s m hm1 hms' HG.out
            go_wp2_with fail
            go_region_with (go_at_call 13; go_must (refine (encvs_yes _ _ hvm).mono ?_; rintro e w1 ⟨rfl, hb1⟩))
            go_wp2_with fail
            go_ret2
            exact ⟨⟨_, m, rfl, Or.inl ⟨HG.out, hm7, rfl⟩⟩, HB.out.drew.trans (hb1.mono hz)⟩
          · have HG := Lib.hid hg; clear hg
            have hq := cmp_no s m hm1 hms' HG.out
            go_wp2_with fail
            go_region_with (go_at_call 13; go_must (refine (encvs_yes _ _ hvm).mono ?_; rintro e w1 ⟨rfl, hb1⟩))
            go_wp2_with fail
            go_roundw
            case rel => exact ⟨m + 1, by omega, by omega, by omega, by go_num, not_step HN.out HG.out, HB.out.drew.trans (hb1.mono hz), Nat.le_trans hz hb1.size⟩
            case measure => simp [intOf]; omega
        · obtain ⟨p, rfl⟩ : ∃ p, j = p + 1 := ⟨j - 1, by omega⟩
          have hst := vval_drop s m p (by omega) hms'
          have hle := vval_drop_lt s m (p + 1) hm7 (by omega)
          have HS := Lib.hid hst; clear hst
          have hc : ((s[p]'(by omega)).toNat : Int) ≤ 255 := by have := (s[p]'(by omega)).toNat_lt; omega
          rw [show (((p + 1 : Nat) : Int) - 1) = (p : Int) by omega]
          go_wp2_with fail
          go_round
          case rel => exact ⟨p, by omega, by go_num, by rw [HS.out]; go_num⟩
          case measure => simp [intOf]
    · have hend := not_end (l := s.data.toList) (m := m) HN.out (by simp; omega)
      have HE := Lib.hid hend; clear hend
      by_cases hm7 : m ≤ 7
      all_goals
        go_wp2_with fail
        go_ret2
        exact ⟨⟨0, 0, rfl, HE.out⟩, HB.out⟩
end Go.Proofs.Yteknoaikgmlhcaa
