/-
  EqualCartans of the model: what each call returns.
  EqualCartans of the program: what the call returns.
-/
import Derived.Test.YtcmnkhblnlmfpaaGreatDoorFC01
import Derived.Test.YtcmnkhblnlmfpaaGreatDoorFC03
namespace Go.Proofs.YtcmnkhblnlmfpaaGreatDoor
open Go.RowKit

theorem ne_at {m m' : List (List Int)} {k : Nat} (hk : k < m.length) (hk' : k < m'.length) (h : ¬ m[k] = m'[k]) : eqM m m' = false := eqM_no (fun e => h (by subst e; rfl))
theorem eq_all {m m' : List (List Int)} {n : Nat} (h1 : m.length = n) (h2 : m'.length = n) (h : PreM m m' n) : eqM m m' = true := by
  unfold PreM at h
  rw [List.take_of_length_le (by omega), List.take_of_length_le (by omega)] at h
  exact eqM_yes h
theorem rows_eq {a b : List Int} {r : Nat} (h1 : a.length = r) (h2 : b.length = r) (h : Pre a b r) : a = b := by
  unfold Pre at h
  rwa [List.take_of_length_le (by omega), List.take_of_length_le (by omega)] at h

set_option maxHeartbeats 2000000 in
set_option maxRecDepth 100000 in
theorem eqcs_any (B : Nat) (v v' : Value) (m m' : List (List Int)) (w : World) (h : MatB B w v m) (h' : MatB B w v' m') (hf : RowsFit m) (hf' : RowsFit m') :
    Calls Tryz.prog 54 #[v, v'] w fun e w' => e = .returned (.bool (eqM m m')) ∧ ∃ q, w' = w.drewN q := by
  obtain ⟨a, cap, rfl⟩ := h.slice
  obtain ⟨a', cap', rfl⟩ := h'.slice
  have hl := hf.1
  have hl' := hf'.1
  have HR := Lib.hid h; clear h
  have HR' := Lib.hid h'; clear h'
  have HF := Lib.hid hf; clear hf
  have HF' := Lib.hid hf'; clear hf'
  generalize hn : m.length = n at *
  generalize hn' : m'.length = n' at *
  unfold maxLen at hl hl'
  have HN := Lib.hid hn; clear hn
  have HN' := Lib.hid hn'; clear hn'
  by_cases hlen : n = n'
  · subst hlen
    go_enter Tryz.func54, Tryz.ntmps54
    go_wp2_with fail
    go_loopw [5] (fun i wr => ∃ (k q : Nat), k ≤ n ∧ i = .int .i64 k ∧ wr = w.drewN q ∧ PreM m m' k) (fun i _ => n - (intOf i).toNat)
    case atStart => exact ⟨0, 0, Nat.zero_le _, rfl, rfl, rfl⟩
    case round =>
      obtain ⟨k, q, hk, rfl, rfl, hp⟩ := hrel
      have HP := Lib.hid hp; clear hp
      by_cases hlt : k < n
      · obtain ⟨b, off, hkl, rfl, hb, ra, rcap, hc, hrow⟩ := HR.out.get hlt
        obtain ⟨b', off', hkl', rfl, hb', ra', rcap', hc', hrow'⟩ := HR'.out.get hlt
        have HROW := Lib.hid hrow; clear hrow
        have HROW' := Lib.hid hrow'; clear hrow'
        have hr1 := HF.out.2 k hkl
        have hr2 := HF'.out.2 k hkl'
        have hne : ¬ m[k] = m'[k] → eqM m m' = false := ne_at hkl hkl'
        have hstep : m[k] = m'[k] → PreM m m' (k + 1) := preM_step hkl hkl' HP.out
        have HNE := Lib.hid hne; clear hne
        have HST := Lib.hid hstep; clear hstep
        generalize m[k] = x at *
        generalize m'[k] = y at *
        generalize hxn : x.length = r at *
        generalize hyn : y.length = r' at *
        unfold maxLen at hr1 hr2
        have HXN := Lib.hid hxn; clear hxn
        have HYN := Lib.hid hyn; clear hyn
        by_cases hrr : r = r'
        · subst hrr
          go_wp2_with fail
          go_quiet (fail)
          go_wp2_with fail
          go_loopw [6] (fun i wr => ∃ (j q : Nat), j ≤ r ∧ i = .int .i64 j ∧ wr = w.drewN q ∧ Pre x y j) (fun i _ => r - (intOf i).toNat)
          case atStart => exact ⟨0, _, Nat.zero_le _, rfl, World.drewN_drewN _ _ _, rfl⟩
          case round =>
            obtain ⟨j, q2, hj, rfl, rfl, hpj⟩ := hrel
            have HPJ := Lib.hid hpj; clear hpj
            by_cases hjr : j < r
            · obtain ⟨b1, off1, hjl, rfl, hb1, hc1⟩ := HROW.out.get hjr
              obtain ⟨b2, off2, hjl', rfl, hb2, hc2⟩ := HROW'.out.get hjr
              by_cases he : x[j] = y[j]
              · have hst := pre_step hjl hjl' HPJ.out he
                have HST2 := Lib.hid hst; clear hst
                rw [← he] at hc2
                clear he
                generalize x[j] = z at *
                go_wp2_with fail
                go_quiet (fail)
                go_wp2_with fail
                exact ⟨⟨j + 1, q2 + nq, by omega, by go_num, rfl, HST2.out⟩, by simp [intOf]; omega⟩
              · have hbad := HNE.out (fun e => he (by subst e; rfl))
                have HBAD := Lib.hid hbad; clear hbad
                generalize hx : x[j] = z at *
                generalize hy : y[j] = z' at *
                have hxy : (z != z') = true := by rw [bne_iff_ne]; exact he
                have hxy' : (z == z') = false := by rw [beq_eq_false_iff_ne]; exact he
                clear hx hy he
                go_wp2_with fail
                go_quiet (fail)
                go_wp2_with fail
                go_ret
                exact ⟨ret_boolean HBAD.out.symm, _, World.drewN_drewN _ _ _⟩
            · obtain rfl : j = r := by omega
              have hgood := HST.out (rows_eq HXN.out HYN.out HPJ.out)
              have HG := Lib.hid hgood; clear hgood
              go_wp2_with fail
              exact ⟨⟨k + 1, q2, by omega, by go_num, rfl, HG.out⟩, by simp [intOf]; omega⟩
        · have hbad := HNE.out (fun e => hrr (by rw [← HXN.out, ← HYN.out, e]))
          have HBAD := Lib.hid hbad; clear hbad
          have hq : ((r : Int) != (r' : Int)) = true := by rw [bne_iff_ne]; omega
          have hq' : ((r : Int) == (r' : Int)) = false := by rw [beq_eq_false_iff_ne]; omega
          clear hrr
          go_wp2_with fail
          go_quiet (fail)
          go_wp2_with fail
          all_goals go_ret
          all_goals exact ⟨ret_boolean HBAD.out.symm, _, World.drewN_drewN _ _ _⟩
      · obtain rfl : k = n := by omega
        have hv := eq_all HN.out HN'.out HP.out
        have HV := Lib.hid hv; clear hv
        go_wp2_with fail
        go_ret
        exact ⟨ret_boolean HV.out.symm, _, rfl⟩
  · have hne : ¬ m = m' := fun e => hlen (by rw [← HN.out, ← HN'.out, e])
    have hv := eqM_no hne
    have HV := Lib.hid hv; clear hv hne
    have hq : ((n : Int) != (n' : Int)) = true := by rw [bne_iff_ne]; omega
    clear hlen
    go_enter Tryz.func54, Tryz.ntmps54
    go_wp2_with fail
    all_goals go_ret
    all_goals exact ⟨ret_boolean HV.out.symm, 0, rfl⟩
end Go.Proofs.YtcmnkhblnlmfpaaGreatDoor
namespace Go.Proofs.YtcmnkhblnlmfpaaGreatDoor
open Go.RowKit

set_option maxHeartbeats 1000000 in
theorem sleq_any (B : Nat) (v v' : Value) (l l' : List Int) (w : World) (h : RowB B w v l) (h' : RowB B w v' l') (hl : l.length ≤ maxLen) (hl' : l'.length ≤ maxLen) :
    Calls Tryz.prog 96 #[v, v'] w fun e w' => e = .returned (.bool (eqL l l')) ∧ ∃ q, w' = w.drewN q := by
  obtain ⟨a, cap, rfl⟩ := h.slice
  obtain ⟨a', cap', rfl⟩ := h'.slice
  have HR := Lib.hid h; clear h
  have HR' := Lib.hid h'; clear h'
  generalize hn : l.length = n at *
  generalize hn' : l'.length = n' at *
  unfold maxLen at hl hl'
  have HN := Lib.hid hn; clear hn
  have HN' := Lib.hid hn'; clear hn'
  by_cases hlen : n = n'
  · subst hlen
    go_enter Tryz.func96, Tryz.ntmps96
    go_wp2_with fail
    go_loopw [13] (fun i wr => ∃ (k q : Nat), k ≤ n ∧ i = .int .i64 k ∧ wr = w.drewN q ∧ Pre l l' k) (fun i _ => n - (intOf i).toNat)
    case atStart => exact ⟨0, 0, Nat.zero_le _, rfl, rfl, rfl⟩
    case round =>
      obtain ⟨k, q, hk, rfl, rfl, hp⟩ := hrel
      have HP := Lib.hid hp; clear hp
      by_cases hlt : k < n
      · obtain ⟨b, off, hkl, rfl, hb, hc⟩ := HR.out.get hlt
        obtain ⟨b', off', hkl', rfl, hb', hc'⟩ := HR'.out.get hlt
        by_cases he : l[k] = l'[k]
        · have hst := pre_step hkl hkl' HP.out he
          have HST := Lib.hid hst; clear hst
          rw [← he] at hc'
          clear he
          generalize l[k] = x at *
          go_wp2_with fail
          go_quiet (fail)
          go_wp2_with fail
          exact ⟨⟨k + 1, q + nq, by omega, by go_num, rfl, HST.out⟩, by simp [intOf]; omega⟩
        · have hne : ¬ l = l' := fun e => he (by subst e; rfl)
          have hv := eqL_no hne
          have HV := Lib.hid hv; clear hv hne
          generalize hx : l[k] = x at *
          generalize hy : l'[k] = y at *
          have hxy : (x != y) = true := by rw [bne_iff_ne]; exact he
          have hxy' : (x == y) = false := by rw [beq_eq_false_iff_ne]; exact he
          clear hx hy he
          go_wp2_with fail
          go_quiet (fail)
          go_wp2_with fail
          go_ret
          exact ⟨ret_boolean HV.out.symm, q + nq, World.drewN_drewN _ _ _⟩
      · obtain rfl : k = n := by omega
        have heq : l = l' := by
          have h1 := HP.out
          unfold Pre at h1
          rw [List.take_of_length_le (by rw [HN.out]; exact Nat.le_refl _), List.take_of_length_le (by rw [HN'.out]; exact Nat.le_refl _)] at h1
          exact h1
        have hv := eqL_yes heq
        have HV := Lib.hid hv; clear hv heq
        go_wp2_with fail
        go_ret
        exact ⟨ret_boolean HV.out.symm, _, rfl⟩
  · have hne : ¬ l = l' := fun e => hlen (by rw [← HN.out, ← HN'.out, e])
    have hv := eqL_no hne
    have HV := Lib.hid hv; clear hv hne
    have hq : ((n : Int) != (n' : Int)) = true := by rw [bne_iff_ne]; omega
    clear hlen
    go_enter Tryz.func96, Tryz.ntmps96
    go_wp2_with fail
    all_goals go_ret
    all_goals exact ⟨ret_boolean HV.out.symm, 0, rfl⟩

set_option maxHeartbeats 1000000 in
theorem eqf_any (B : Nat) (v v' : Value) (m m' : List (List Int)) (w : World) (h : MatB B w v m) (h' : MatB B w v' m') (hf : RowsFit m) (hf' : RowsFit m') :
    Calls Tryz.prog 95 #[v, v', .func (.func 96) #[] #[]] w fun e w' => e = .returned (.bool (eqM m m')) ∧ ∃ q, w' = w.drewN q := by
  obtain ⟨a, cap, rfl⟩ := h.slice
  obtain ⟨a', cap', rfl⟩ := h'.slice
  have hl := hf.1
  have hl' := hf'.1
  have HR := Lib.hid h; clear h
  have HR' := Lib.hid h'; clear h'
  have HF := Lib.hid hf; clear hf
  have HF' := Lib.hid hf'; clear hf'
  generalize hn : m.length = n at *
  generalize hn' : m'.length = n' at *
  unfold maxLen at hl hl'
  have HN := Lib.hid hn; clear hn
  have HN' := Lib.hid hn'; clear hn'
  by_cases hlen : n = n'
  · subst hlen
    go_enter Tryz.func95, Tryz.ntmps95
    go_wp2_with fail
    go_loopw [17] (fun i wr => ∃ (k q : Nat), k ≤ n ∧ i = .int .i64 k ∧ wr = w.drewN q ∧ PreM m m' k) (fun i _ => n - (intOf i).toNat)
    case atStart => exact ⟨0, 0, Nat.zero_le _, rfl, rfl, rfl⟩
    case round =>
      obtain ⟨k, q, hk, rfl, rfl, hp⟩ := hrel
      have HP := Lib.hid hp; clear hp
      by_cases hlt : k < n
      · obtain ⟨b, off, hkl, rfl, hb, ra, rcap, hc, hrow⟩ := HR.out.get hlt
        obtain ⟨b', off', hkl', rfl, hb', ra', rcap', hc', hrow'⟩ := HR'.out.get hlt
        have HROW := Lib.hid hrow; clear hrow
        have HROW' := Lib.hid hrow'; clear hrow'
        by_cases he : m[k] = m'[k]
        · have hst := preM_step hkl hkl' HP.out he
          have HST := Lib.hid hst; clear hst
          have hcon : ∀ q, Calls Tryz.prog 96 #[.slice ra m[k].length rcap, .slice ra' m'[k].length rcap'] (w.drewN q) fun e w' => e = .returned (.bool true) ∧ ∃ q', w' = (w.drewN q).drewN q' := fun q =>
            (sleq_any B _ _ _ _ (w.drewN q) (HROW.out.drewN q) (HROW'.out.drewN q) (HF.out.2 k hkl) (HF'.out.2 k hkl')).mono fun e w' ⟨h1, h2⟩ => ⟨by rw [h1, eqL_yes he], h2⟩
          have HCON := Lib.hid hcon; clear hcon he
          generalize m[k].length = rn at *
          generalize m'[k].length = rn' at *
          go_wp2_with fail
          refine (HCON.out q).mono ?_
          rintro e w' ⟨rfl, q3, rfl⟩
          go_wp2_with fail
          exact ⟨⟨k + 1, q + q3, by omega, by go_num, rfl, HST.out⟩, by simp [intOf]; omega⟩
        · have hne : ¬ m = m' := fun e => he (by subst e; rfl)
          have hv := eqM_no hne
          have HV := Lib.hid hv; clear hv hne
          have hcon : ∀ q, Calls Tryz.prog 96 #[.slice ra m[k].length rcap, .slice ra' m'[k].length rcap'] (w.drewN q) fun e w' => e = .returned (.bool false) ∧ ∃ q', w' = (w.drewN q).drewN q' := fun q =>
            (sleq_any B _ _ _ _ (w.drewN q) (HROW.out.drewN q) (HROW'.out.drewN q) (HF.out.2 k hkl) (HF'.out.2 k hkl')).mono fun e w' ⟨h1, h2⟩ => ⟨by rw [h1, eqL_no he], h2⟩
          have HCON := Lib.hid hcon; clear hcon he
          generalize m[k].length = rn at *
          generalize m'[k].length = rn' at *
          go_wp2_with fail
          refine (HCON.out q).mono ?_
          rintro e w' ⟨rfl, q3, rfl⟩
          go_wp2_with fail
          go_ret
          exact ⟨ret_boolean HV.out.symm, q + q3, rfl⟩
      · obtain rfl : k = n := by omega
        have hv := eq_all HN.out HN'.out HP.out
        have HV := Lib.hid hv; clear hv
        go_wp2_with fail
        go_ret
        exact ⟨ret_boolean HV.out.symm, _, rfl⟩
  · have hne : ¬ m = m' := fun e => hlen (by rw [← HN.out, ← HN'.out, e])
    have hv := eqM_no hne
    have HV := Lib.hid hv; clear hv hne
    have hq : ((n : Int) != (n' : Int)) = true := by rw [bne_iff_ne]; omega
    clear hlen
    go_enter Tryz.func95, Tryz.ntmps95
    go_wp2_with fail
    all_goals go_ret
    all_goals exact ⟨ret_boolean HV.out.symm, 0, rfl⟩

set_option maxHeartbeats 1000000 in
theorem eqci_any (B : Nat) (v v' : Value) (m m' : List (List Int)) (w : World) (h : MatB B w v m) (h' : MatB B w v' m') (hf : RowsFit m) (hf' : RowsFit m') :
    Calls Tryz.prog 53 #[v, v'] w fun e w' => e = .returned (.bool (eqM m m')) ∧ ∃ q, w' = w.drewN q := by
  have hc := eqf_any B v v' m m' w h h' hf hf'
  have HC := Lib.hid hc
  clear hc h h' hf hf'
  generalize eqM m m' = c at *
  go_enter Tryz.func53, Tryz.ntmps53
  go_wp2_with fail
  refine HC.out.mono ?_
  rintro e w' ⟨rfl, q, rfl⟩
  go_wp2_with fail
  go_ret
  exact ⟨rfl, q, rfl⟩
theorem eqcs_b (B B' : Nat) (v v' : Value) (m m' : List (List Int)) (w : World) (h : MatB B w v m) (h' : MatB B' w v' m') (hf : RowsFit m) (hf' : RowsFit m') :
    Calls Tryz.prog 54 #[v, v'] w fun e w' => e = .returned (.bool (eqM m m')) ∧ Below w.heap.size w w' :=
  (eqcs_any (max B B') v v' m m' w (h.mono (Nat.le_max_left _ _)) (h'.mono (Nat.le_max_right _ _)) hf hf').mono fun e w' ⟨h1, q, h2⟩ => ⟨h1, by rw [h2]; exact below_drewN q⟩
theorem eqci_b (B B' : Nat) (v v' : Value) (m m' : List (List Int)) (w : World) (h : MatB B w v m) (h' : MatB B' w v' m') (hf : RowsFit m) (hf' : RowsFit m') :
    Calls Tryz.prog 53 #[v, v'] w fun e w' => e = .returned (.bool (eqM m m')) ∧ Below w.heap.size w w' :=
  (eqci_any (max B B') v v' m m' w (h.mono (Nat.le_max_left _ _)) (h'.mono (Nat.le_max_right _ _)) hf hf').mono fun e w' ⟨h1, q, h2⟩ => ⟨h1, by rw [h2]; exact below_drewN q⟩
end Go.Proofs.YtcmnkhblnlmfpaaGreatDoor
