/-
  EqualCartans of the model: what each call returns.
-/
import Derived.Test.YtgpcacgafbhhdaaDoorHelp
namespace Go.Proofs.YtgpcacgafbhhdaaDoor
open Go.RowKit

theorem ne_at {m m' : List (List Int)} {k : Nat} (hk : k < m.length) (hk' : k < m'.length) (h : ¬ m[k] = m'[k]) : eqM m m' = false := eqM_no (fun e => h (by subst e; rfl))
theorem eq_all {m m' : List (List Int)} {n : Nat} (h1 : m.length = n) (h2 : m'.length = n) (h : PreM m m' n) : eqM m m' = true := by
  unfold PreM at h
  rw [List.take_of_length_le (by omega), List.take_of_length_le (by omega)] at h
  exact eqM_yes h
theorem rows_eq {a b : List Int} {r : Nat} (h1 : a.length = r) (h2 : b.length = r) (h : Pre a b r) : a = b := by
  unfold Pre at h
  rwa [List.take_of_length_le (by omega), List.take_of_length_le (by omega)] at h

set_option maxHeartbeats 2000000 in
set_option maxRecDepth 100000 in
theorem eqcs_any (B : Nat) (v v' : Value) (m m' : List (List Int)) (w : World) (h : MatB B w v m) (h' : MatB B w v' m') (hf : RowsFit m) (hf' : RowsFit m') :
    Calls Tryd.prog 38 #[v, v'] w fun e w' => e = .returned (.bool (eqM m m')) ∧ ∃ q, w' = w.drewN q := by
  obtain ⟨a, cap, rfl⟩ := h.slice
  obtain ⟨a', cap', rfl⟩ := h'.slice
  have hl := hf.1
  have hl' := hf'.1
  have HR := Lib.hid h; clear h
  have HR' := Lib.hid h'; clear h'
  have HF := Lib.hid hf; clear hf
  have HF' := Lib.hid hf'; clear hf'
  generalize hn : m.length = n at *
  generalize hn' : m'.length = n' at *
  unfold maxLen at hl hl'
  have HN := Lib.hid hn; clear hn
  have HN' := Lib.hid hn'; clear hn'
  by_cases hlen : n = n'
  · subst hlen
    go_enter Tryd.func38, Tryd.ntmps38
    go_wp2_with fail
    go_loopw [5] (fun i wr => ∃ (k q : Nat), k ≤ n ∧ i = .int .i64 k ∧ wr = w.drewN q ∧ PreM m m' k) (fun i _ => n - (intOf i).toNat)
    case atStart => exact ⟨0, 0, Nat.zero_le _, rfl, rfl, rfl⟩
    case round =>
      obtain ⟨k, q, hk, rfl, rfl, hp⟩ := hrel
      have HP := Lib.hid hp; clear hp
      by_cases hlt : k < n
      · obtain ⟨b, off, hkl, rfl, hb, ra, rcap, hc, hrow⟩ := HR.out.get hlt
        obtain ⟨b', off', hkl', rfl, hb', ra', rcap', hc', hrow'⟩ := HR'.out.get hlt
        have HROW := Lib.hid hrow; clear hrow
        have HROW' := Lib.hid hrow'; clear hrow'
        have hr1 := HF.out.2 k hkl
        have hr2 := HF'.out.2 k hkl'
        have hne : ¬ m[k] = m'[k] → eqM m m' = false := ne_at hkl hkl'
        have hstep : m[k] = m'[k] → PreM m m' (k + 1) := preM_step hkl hkl' HP.out
        have HNE := Lib.hid hne; clear hne
        have HST := Lib.hid hstep; clear hstep
        generalize m[k] = x at *
        generalize m'[k] = y at *
        generalize hxn : x.length = r at *
        generalize hyn : y.length = r' at *
        unfold maxLen at hr1 hr2
        have HXN := Lib.hid hxn; clear hxn
        have HYN := Lib.hid hyn; clear hyn
        by_cases hrr : r = r'
        · subst hrr
          go_wp2_with fail
          go_quiet (fail)
          go_wp2_with fail
          go_loopw [6] (fun i wr => ∃ (j q : Nat), j ≤ r ∧ i = .int .i64 j ∧ wr = w.drewN q ∧ Pre x y j) (fun i _ => r - (intOf i).toNat)
          case atStart => exact ⟨0, _, Nat.zero_le _, rfl, World.drewN_drewN _ _ _, rfl⟩
          case round =>
            obtain ⟨j, q2, hj, rfl, rfl, hpj⟩ := hrel
            have HPJ := Lib.hid hpj; clear hpj
            by_cases hjr : j < r
            · obtain ⟨b1, off1, hjl, rfl, hb1, hc1⟩ := HROW.out.get hjr
              obtain ⟨b2, off2, hjl', rfl, hb2, hc2⟩ := HROW'.out.get hjr
              by_cases he : x[j] = y[j]
              · have hst := pre_step hjl hjl' HPJ.out he
                have HST2 := Lib.hid hst; clear hst
                rw [← he] at hc2
                clear he
                generalize x[j] = z at *
                go_wp2_with fail
                go_quiet (fail)
                go_wp2_with fail
                exact ⟨⟨j + 1, q2 + nq, by omega, by go_num, rfl, HST2.out⟩, by simp [intOf]; omega⟩
              · have hbad := HNE.out (fun e => he (by subst e; rfl))
                have HBAD := Lib.hid hbad; clear hbad
                generalize hx : x[j] = z at *
                generalize hy : y[j] = z' at *
                have hxy : (z != z') = true := by rw [bne_iff_ne]; exact he
                have hxy' : (z == z') = false := by rw [beq_eq_false_iff_ne]; exact he
                clear hx hy he
                go_wp2_with fail
                go_quiet (fail)
                go_wp2_with fail
                go_ret
                exact ⟨ret_boolean HBAD.out.symm, _, World.drewN_drewN _ _ _⟩
            · obtain rfl : j = r := by omega
              have hgood := HST.out (rows_eq HXN.out HYN.out HPJ.out)
              have HG := Lib.hid hgood; clear hgood
              go_wp2_with fail
              exact ⟨⟨k + 1, q2, by omega, by go_num, rfl, HG.out⟩, by simp [intOf]; omega⟩
        · have hbad := HNE.out (fun e => hrr (by rw [← HXN.out, ← HYN.out, e]))
          have HBAD := Lib.hid hbad; clear hbad
          have hq : ((r : Int) != (r' : Int)) = true := by rw [bne_iff_ne]; omega
          have hq' : ((r : Int) == (r' : Int)) = false := by rw [beq_eq_false_iff_ne]; omega
          clear hrr
          go_wp2_with fail
          go_quiet (fail)
          go_wp2_with fail
          all_goals go_ret
          all_goals exact ⟨ret_boolean HBAD.out.symm, _, World.drewN_drewN _ _ _⟩
      · obtain rfl : k = n := by omega
        have hv := eq_all HN.out HN'.out HP.out
        have HV := Lib.hid hv; clear hv
        go_wp2_with fail
        go_ret
        exact ⟨ret_boolean HV.out.symm, _, rfl⟩
  · have hne : ¬ m = m' := fun e => hlen (by rw [← HN.out, ← HN'.out, e])
    have hv := eqM_no hne
    have HV := Lib.hid hv; clear hv hne
    have hq : ((n : Int) != (n' : Int)) = true := by rw [bne_iff_ne]; omega
    clear hlen
    go_enter Tryd.func38, Tryd.ntmps38
    go_wp2_with fail
    all_goals go_ret
    all_goals exact ⟨ret_boolean HV.out.symm, 0, rfl⟩
end Go.Proofs.YtgpcacgafbhhdaaDoor
