/-
  EqualCartans of the program: what the call returns.
-/
import Derived.Test.YtgpcacgafbhhdaaDoorEqC
import Derived.Test.YtgpcacgafbhhdaaDoorFrm
namespace Go.Proofs.YtgpcacgafbhhdaaDoor
open Go.RowKit

set_option maxHeartbeats 1000000 in
theorem sleq_any (B : Nat) (v v' : Value) (l l' : List Int) (w : World) (h : RowB B w v l) (h' : RowB B w v' l') (hl : l.length ≤ maxLen) (hl' : l'.length ≤ maxLen) :
    Calls Tryd.prog 69 #[v, v'] w fun e w' => e = .returned (.bool (eqL l l')) ∧ ∃ q, w' = w.drewN q := by
  obtain ⟨a, cap, rfl⟩ := h.slice
  obtain ⟨a', cap', rfl⟩ := h'.slice
  have HR := Lib.hid h; clear h
  have HR' := Lib.hid h'; clear h'
  generalize hn : l.length = n at *
  generalize hn' : l'.length = n' at *
  unfold maxLen at hl hl'
  have HN := Lib.hid hn; clear hn
  have HN' := Lib.hid hn'; clear hn'
  by_cases hlen : n = n'
  · subst hlen
    go_enter Tryd.func69, Tryd.ntmps69
    go_wp2_with fail
    go_loopw [13] (fun i wr => ∃ (k q : Nat), k ≤ n ∧ i = .int .i64 k ∧ wr = w.drewN q ∧ Pre l l' k) (fun i _ => n - (intOf i).toNat)
    case atStart => exact ⟨0, 0, Nat.zero_le _, rfl, rfl, rfl⟩
    case round =>
      obtain ⟨k, q, hk, rfl, rfl, hp⟩ := hrel
      have HP := Lib.hid hp; clear hp
      by_cases hlt : k < n
      · obtain ⟨b, off, hkl, rfl, hb, hc⟩ := HR.out.get hlt
        obtain ⟨b', off', hkl', rfl, hb', hc'⟩ := HR'.out.get hlt
        by_cases he : l[k] = l'[k]
        · have hst := pre_step hkl hkl' HP.out he
          have HST := Lib.hid hst; clear hst
          rw [← he] at hc'
          clear he
          generalize l[k] = x at *
          go_wp2_with fail
          go_quiet (fail)
          go_wp2_with fail
          exact ⟨⟨k + 1, q + nq, by omega, by go_num, rfl, HST.out⟩, by simp [intOf]; omega⟩
        · have hne : ¬ l = l' := fun e => he (by subst e; rfl)
          have hv := eqL_no hne
          have HV := Lib.hid hv; clear hv hne
          generalize hx : l[k] = x at *
          generalize hy : l'[k] = y at *
          have hxy : (x != y) = true := by rw [bne_iff_ne]; exact he
          have hxy' : (x == y) = false := by rw [beq_eq_false_iff_ne]; exact he
          clear hx hy he
          go_wp2_with fail
          go_quiet (fail)
          go_wp2_with fail
          go_ret
          exact ⟨ret_boolean HV.out.symm, q + nq, World.drewN_drewN _ _ _⟩
      · obtain rfl : k = n := by omega
        have heq : l = l' := by
          have h1 := HP.out
          unfold Pre at h1
          rw [List.take_of_length_le (by rw [HN.out]; exact Nat.le_refl _), List.take_of_length_le (by rw [HN'.out]; exact Nat.le_refl _)] at h1
          exact h1
        have hv := eqL_yes heq
        have HV := Lib.hid hv; clear hv heq
        go_wp2_with fail
        go_ret
        exact ⟨ret_boolean HV.out.symm, _, rfl⟩
  · have hne : ¬ l = l' := fun e => hlen (by rw [← HN.out, ← HN'.out, e])
    have hv := eqL_no hne
    have HV := Lib.hid hv; clear hv hne
    have hq : ((n : Int) != (n' : Int)) = true := by rw [bne_iff_ne]; omega
    clear hlen
    go_enter Tryd.func69, Tryd.ntmps69
    go_wp2_with fail
    all_goals go_ret
    all_goals exact ⟨ret_boolean HV.out.symm, 0, rfl⟩

set_option maxHeartbeats 1000000 in
theorem eqf_any (B : Nat) (v v' : Value) (m m' : List (List Int)) (w : World) (h : MatB B w v m) (h' : MatB B w v' m') (hf : RowsFit m) (hf' : RowsFit m') :
    Calls Tryd.prog 68 #[v, v', .func (.func 69) #[] #[]] w fun e w' => e = .returned (.bool (eqM m m')) ∧ ∃ q, w' = w.drewN q := by
  obtain ⟨a, cap, rfl⟩ := h.slice
  obtain ⟨a', cap', rfl⟩ := h'.slice
  have hl := hf.1
  have hl' := hf'.1
  have HR := Lib.hid h; clear h
  have HR' := Lib.hid h'; clear h'
  have HF := Lib.hid hf; clear hf
  have HF' := Lib.hid hf'; clear hf'
  generalize hn : m.length = n at *
  generalize hn' : m'.length = n' at *
  unfold maxLen at hl hl'
  have HN := Lib.hid hn; clear hn
  have HN' := Lib.hid hn'; clear hn'
  by_cases hlen : n = n'
  · subst hlen
    go_enter Tryd.func68, Tryd.ntmps68
    go_wp2_with fail
    go_loopw [17] (fun i wr => ∃ (k q : Nat), k ≤ n ∧ i = .int .i64 k ∧ wr = w.drewN q ∧ PreM m m' k) (fun i _ => n - (intOf i).toNat)
    case atStart => exact ⟨0, 0, Nat.zero_le _, rfl, rfl, rfl⟩
    case round =>
      obtain ⟨k, q, hk, rfl, rfl, hp⟩ := hrel
      have HP := Lib.hid hp; clear hp
      by_cases hlt : k < n
      · obtain ⟨b, off, hkl, rfl, hb, ra, rcap, hc, hrow⟩ := HR.out.get hlt
        obtain ⟨b', off', hkl', rfl, hb', ra', rcap', hc', hrow'⟩ := HR'.out.get hlt
        have HROW := Lib.hid hrow; clear hrow
        have HROW' := Lib.hid hrow'; clear hrow'
        by_cases he : m[k] = m'[k]
        · have hst := preM_step hkl hkl' HP.out he
          have HST := Lib.hid hst; clear hst
          have hcon : ∀ q, Calls Tryd.prog 69 #[.slice ra m[k].length rcap, .slice ra' m'[k].length rcap'] (w.drewN q) fun e w' => e = .returned (.bool true) ∧ ∃ q', w' = (w.drewN q).drewN q' := fun q =>
            (sleq_any B _ _ _ _ (w.drewN q) (HROW.out.drewN q) (HROW'.out.drewN q) (HF.out.2 k hkl) (HF'.out.2 k hkl')).mono fun e w' ⟨h1, h2⟩ => ⟨by rw [h1, eqL_yes he], h2⟩
          have HCON := Lib.hid hcon; clear hcon he
          generalize m[k].length = rn at *
          generalize m'[k].length = rn' at *
          go_wp2_with fail
          refine (HCON.out q).mono ?_
          rintro e w' ⟨rfl, q3, rfl⟩
          go_wp2_with fail
          exact ⟨⟨k + 1, q + q3, by omega, by go_num, rfl, HST.out⟩, by simp [intOf]; omega⟩
        · have hne : ¬ m = m' := fun e => he (by subst e; rfl)
          have hv := eqM_no hne
          have HV := Lib.hid hv; clear hv hne
          have hcon : ∀ q, Calls Tryd.prog 69 #[.slice ra m[k].length rcap, .slice ra' m'[k].length rcap'] (w.drewN q) fun e w' => e = .returned (.bool false) ∧ ∃ q', w' = (w.drewN q).drewN q' := fun q =>
            (sleq_any B _ _ _ _ (w.drewN q) (HROW.out.drewN q) (HROW'.out.drewN q) (HF.out.2 k hkl) (HF'.out.2 k hkl')).mono fun e w' ⟨h1, h2⟩ => ⟨by rw [h1, eqL_no he], h2⟩
          have HCON := Lib.hid hcon; clear hcon he
          generalize m[k].length = rn at *
          generalize m'[k].length = rn' at *
          go_wp2_with fail
          refine (HCON.out q).mono ?_
          rintro e w' ⟨rfl, q3, rfl⟩
          go_wp2_with fail
          go_ret
          exact ⟨ret_boolean HV.out.symm, q + q3, rfl⟩
      · obtain rfl : k = n := by omega
        have hv := eq_all HN.out HN'.out HP.out
        have HV := Lib.hid hv; clear hv
        go_wp2_with fail
        go_ret
        exact ⟨ret_boolean HV.out.symm, _, rfl⟩
  · have hne : ¬ m = m' := fun e => hlen (by rw [← HN.out, ← HN'.out, e])
    have hv := eqM_no hne
    have HV := Lib.hid hv; clear hv hne
    have hq : ((n : Int) != (n' : Int)) = true := by rw [bne_iff_ne]; omega
    clear hlen
    go_enter Tryd.func68, Tryd.ntmps68
    go_wp2_with fail
    all_goals go_ret
    all_goals exact ⟨ret_boolean HV.out.symm, 0, rfl⟩

set_option maxHeartbeats 1000000 in
theorem eqci_any (B : Nat) (v v' : Value) (m m' : List (List Int)) (w : World) (h : MatB B w v m) (h' : MatB B w v' m') (hf : RowsFit m) (hf' : RowsFit m') :
    Calls Tryd.prog 56 #[v, v'] w fun e w' => e = .returned (.bool (eqM m m')) ∧ ∃ q, w' = w.drewN q := by
  have hc := eqf_any B v v' m m' w h h' hf hf'
  have HC := Lib.hid hc
  clear hc h h' hf hf'
  generalize eqM m m' = c at *
  go_enter Tryd.func56, Tryd.ntmps56
  go_wp2_with fail
  refine HC.out.mono ?_
  rintro e w' ⟨rfl, q, rfl⟩
  go_wp2_with fail
  go_ret
  exact ⟨rfl, q, rfl⟩
theorem eqcs_b (B B' : Nat) (v v' : Value) (m m' : List (List Int)) (w : World) (h : MatB B w v m) (h' : MatB B' w v' m') (hf : RowsFit m) (hf' : RowsFit m') :
    Calls Tryd.prog 38 #[v, v'] w fun e w' => e = .returned (.bool (eqM m m')) ∧ Below w.heap.size w w' :=
  (eqcs_any (max B B') v v' m m' w (h.mono (Nat.le_max_left _ _)) (h'.mono (Nat.le_max_right _ _)) hf hf').mono fun e w' ⟨h1, q, h2⟩ => ⟨h1, by rw [h2]; exact below_drewN q⟩
theorem eqci_b (B B' : Nat) (v v' : Value) (m m' : List (List Int)) (w : World) (h : MatB B w v m) (h' : MatB B' w v' m') (hf : RowsFit m) (hf' : RowsFit m') :
    Calls Tryd.prog 56 #[v, v'] w fun e w' => e = .returned (.bool (eqM m m')) ∧ Below w.heap.size w w' :=
  (eqci_any (max B B') v v' m m' w (h.mono (Nat.le_max_left _ _)) (h'.mono (Nat.le_max_right _ _)) hf hf').mono fun e w' ⟨h1, q, h2⟩ => ⟨h1, by rw [h2]; exact below_drewN q⟩
end Go.Proofs.YtgpcacgafbhhdaaDoor
