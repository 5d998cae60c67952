/-
  The law's comparisons of lists and of lists of lists: what the calls return.
-/
import Derived.Test.YtnfogfkgbignbaaHelp
namespace Go.Proofs.Ytnfogfkgbignbaa
open Go.RowKit

set_option maxHeartbeats 1000000 in
theorem smS_any (B : Nat) (v v' : Value) (l l' : List Int) (w : World) (h : RowB B w v l) (h' : RowB B w v' l') (hl : l.length ≤ maxLen) (hl' : l'.length ≤ maxLen) :
    Calls Try.prog 20 #[v, v'] w fun e w' => e = .returned (.bool (eqL l l')) ∧ ∃ q, w' = w.drewN q := by
  obtain ⟨a, cap, rfl⟩ := h.slice
  obtain ⟨a', cap', rfl⟩ := h'.slice
  have HR := Lib.hid h; clear h
  have HR' := Lib.hid h'; clear h'
  generalize hn : l.length = n at *
  generalize hn' : l'.length = n' at *
  unfold maxLen at hl hl'
  have HN := Lib.hid hn; clear hn
  have HN' := Lib.hid hn'; clear hn'
  by_cases hlen : n = n'
  · subst hlen
    go_enter Try.func20, Try.ntmps20
    go_wp2_with fail
    go_loopw [5] (fun i wr => ∃ (k q : Nat), k ≤ n ∧ i = .int .i64 k ∧ wr = w.drewN q ∧ Pre l l' k) (fun i _ => n - (intOf i).toNat)
    case atStart => exact ⟨0, 0, Nat.zero_le _, rfl, rfl, rfl⟩
    case round =>
      obtain ⟨k, q, hk, rfl, rfl, hp⟩ := hrel
      have HP := Lib.hid hp; clear hp
      by_cases hlt : k < n
      · obtain ⟨b, off, hkl, rfl, hb, hc⟩ := HR.out.get hlt
        obtain ⟨b', off', hkl', rfl, hb', hc'⟩ := HR'.out.get hlt
        by_cases he : l[k] = l'[k]
        · have hst := pre_step hkl hkl' HP.out he
          have HST := Lib.hid hst; clear hst
          rw [← he] at hc'
          clear he
          generalize l[k] = x at *
          go_wp2_with fail
          go_quiet (fail)
          go_wp2_with fail
          exact ⟨⟨k + 1, q + nq, by omega, by go_num, rfl, HST.out⟩, by simp [intOf]; omega⟩
        · have hne : ¬ l = l' := fun e => he (by subst e; rfl)
          have hv := eqL_no hne
          have HV := Lib.hid hv; clear hv hne
          generalize hx : l[k] = x at *
          generalize hy : l'[k] = y at *
          have hxy : (x != y) = true := by rw [bne_iff_ne]; exact he
          have hxy' : (x == y) = false := by rw [beq_eq_false_iff_ne]; exact he
          clear hx hy he
          go_wp2_with fail
          go_quiet (fail)
          go_wp2_with fail
          go_ret
          exact ⟨ret_boolean HV.out.symm, q + nq, World.drewN_drewN _ _ _⟩
      · obtain rfl : k = n := by omega
        have heq : l = l' := by
          have h1 := HP.out
          unfold Pre at h1
          rw [List.take_of_length_le (by rw [HN.out]; exact Nat.le_refl _), List.take_of_length_le (by rw [HN'.out]; exact Nat.le_refl _)] at h1
          exact h1
        have hv := eqL_yes heq
        have HV := Lib.hid hv; clear hv heq
        go_wp2_with fail
        go_ret
        exact ⟨ret_boolean HV.out.symm, _, rfl⟩
  · have hne : ¬ l = l' := fun e => hlen (by rw [← HN.out, ← HN'.out, e])
    have hv := eqL_no hne
    have HV := Lib.hid hv; clear hv hne
    have hq : ((n : Int) != (n' : Int)) = true := by rw [bne_iff_ne]; omega
    clear hlen
    go_enter Try.func20, Try.ntmps20
    go_wp2_with fail
    all_goals go_ret
    all_goals exact ⟨ret_boolean HV.out.symm, 0, rfl⟩

/-! ### inList -/
def inB2 (T : List (List Int)) (p : List Int) : Bool := decide (p ∈ T)
end Go.Proofs.Ytnfogfkgbignbaa
