/-
  EqualCartans of the program: what the call returns.
  AreIsomorphic and SymmetriesOf of the program: what each call returns.
-/
import Derived.Test.YtppimgkampkfjaaGreatDoorFcg19
import Derived.Test.YtppimgkampkfjaaGreatDoorFcg02
import Derived.Deep.LoopGhost
import Derived.Test.YtppimgkampkfjaaGreatDoorFcg16
namespace Go.Proofs.YtppimgkampkfjaaGreatDoor
open Go.RowKit

set_option maxHeartbeats 1000000 in
theorem sleq_any (B : Nat) (v v' : Value) (l l' : List Int) (w : World) (h : RowB B w v l) (h' : RowB B w v' l') (hl : l.length ≤ maxLen) (hl' : l'.length ≤ maxLen) :
    Calls Tryz.prog 98 #[v, v'] w fun e w' => e = .returned (.bool (eqL l l')) ∧ ∃ q, w' = w.drewN q := by
  obtain ⟨a, cap, rfl⟩ := h.slice
  obtain ⟨a', cap', rfl⟩ := h'.slice
  have HR := Lib.hid h; clear h
  have HR' := Lib.hid h'; clear h'
  generalize hn : l.length = n at *
  generalize hn' : l'.length = n' at *
  unfold maxLen at hl hl'
  have HN := Lib.hid hn; clear hn
  have HN' := Lib.hid hn'; clear hn'
  by_cases hlen : n = n'
  · subst hlen
    go_enter Tryz.func98, Tryz.ntmps98
    go_wp2_with fail
    go_loopw [13] (fun i wr => ∃ (k q : Nat), k ≤ n ∧ i = .int .i64 k ∧ wr = w.drewN q ∧ Pre l l' k) (fun i _ => n - (intOf i).toNat)
    case atStart => exact ⟨0, 0, Nat.zero_le _, rfl, rfl, rfl⟩
    case round =>
      obtain ⟨k, q, hk, rfl, rfl, hp⟩ := hrel
      have HP := Lib.hid hp; clear hp
      by_cases hlt : k < n
      · obtain ⟨b, off, hkl, rfl, hb, hc⟩ := HR.out.get hlt
        obtain ⟨b', off', hkl', rfl, hb', hc'⟩ := HR'.out.get hlt
        by_cases he : l[k] = l'[k]
        · have hst := pre_step hkl hkl' HP.out he
          have HST := Lib.hid hst; clear hst
          rw [← he] at hc'
          clear he
          generalize l[k] = x at *
          go_wp2_with fail
          go_quiet (fail)
          go_wp2_with fail
          exact ⟨⟨k + 1, q + nq, by omega, by go_num, rfl, HST.out⟩, by simp [intOf]; omega⟩
        · have hne : ¬ l = l' := fun e => he (by subst e; rfl)
          have hv := eqL_no hne
          have HV := Lib.hid hv; clear hv hne
          generalize hx : l[k] = x at *
          generalize hy : l'[k] = y at *
          have hxy : (x != y) = true := by rw [bne_iff_ne]; exact he
          have hxy' : (x == y) = false := by rw [beq_eq_false_iff_ne]; exact he
          clear hx hy he
          go_wp2_with fail
          go_quiet (fail)
          go_wp2_with fail
          go_ret
          exact ⟨ret_boolean HV.out.symm, q + nq, World.drewN_drewN _ _ _⟩
      · obtain rfl : k = n := by omega
        have heq : l = l' := by
          have h1 := HP.out
          unfold Pre at h1
          rw [List.take_of_length_le (by rw [HN.out]; exact Nat.le_refl _), List.take_of_length_le (by rw [HN'.out]; exact Nat.le_refl _)] at h1
          exact h1
        have hv := eqL_yes heq
        have HV := Lib.hid hv; clear hv heq
        go_wp2_with fail
        go_ret
        exact ⟨ret_boolean HV.out.symm, _, rfl⟩
  · have hne : ¬ l = l' := fun e => hlen (by rw [← HN.out, ← HN'.out, e])
    have hv := eqL_no hne
    have HV := Lib.hid hv; clear hv hne
    have hq : ((n : Int) != (n' : Int)) = true := by rw [bne_iff_ne]; omega
    clear hlen
    go_enter Tryz.func98, Tryz.ntmps98
    go_wp2_with fail
    all_goals go_ret
    all_goals exact ⟨ret_boolean HV.out.symm, 0, rfl⟩

set_option maxHeartbeats 1000000 in
theorem eqf_any (B : Nat) (v v' : Value) (m m' : List (List Int)) (w : World) (h : MatB B w v m) (h' : MatB B w v' m') (hf : RowsFit m) (hf' : RowsFit m') :
    Calls Tryz.prog 97 #[v, v', .func (.func 98) #[] #[]] w fun e w' => e = .returned (.bool (eqM m m')) ∧ ∃ q, w' = w.drewN q := by
  obtain ⟨a, cap, rfl⟩ := h.slice
  obtain ⟨a', cap', rfl⟩ := h'.slice
  have hl := hf.1
  have hl' := hf'.1
  have HR := Lib.hid h; clear h
  have HR' := Lib.hid h'; clear h'
  have HF := Lib.hid hf; clear hf
  have HF' := Lib.hid hf'; clear hf'
  generalize hn : m.length = n at *
  generalize hn' : m'.length = n' at *
  unfold maxLen at hl hl'
  have HN := Lib.hid hn; clear hn
  have HN' := Lib.hid hn'; clear hn'
  by_cases hlen : n = n'
  · subst hlen
    go_enter Tryz.func97, Tryz.ntmps97
    go_wp2_with fail
    go_loopw [17] (fun i wr => ∃ (k q : Nat), k ≤ n ∧ i = .int .i64 k ∧ wr = w.drewN q ∧ PreM m m' k) (fun i _ => n - (intOf i).toNat)
    case atStart => exact ⟨0, 0, Nat.zero_le _, rfl, rfl, rfl⟩
    case round =>
      obtain ⟨k, q, hk, rfl, rfl, hp⟩ := hrel
      have HP := Lib.hid hp; clear hp
      by_cases hlt : k < n
      · obtain ⟨b, off, hkl, rfl, hb, ra, rcap, hc, hrow⟩ := HR.out.get hlt
        obtain ⟨b', off', hkl', rfl, hb', ra', rcap', hc', hrow'⟩ := HR'.out.get hlt
        have HROW := Lib.hid hrow; clear hrow
        have HROW' := Lib.hid hrow'; clear hrow'
        by_cases he : m[k] = m'[k]
        · have hst := preM_step hkl hkl' HP.out he
          have HST := Lib.hid hst; clear hst
          have hcon : ∀ q, Calls Tryz.prog 98 #[.slice ra m[k].length rcap, .slice ra' m'[k].length rcap'] (w.drewN q) fun e w' => e = .returned (.bool true) ∧ ∃ q', w' = (w.drewN q).drewN q' := fun q =>
            (sleq_any B _ _ _ _ (w.drewN q) (HROW.out.drewN q) (HROW'.out.drewN q) (HF.out.2 k hkl) (HF'.out.2 k hkl')).mono fun e w' ⟨h1, h2⟩ => ⟨by rw [h1, eqL_yes he], h2⟩
          have HCON := Lib.hid hcon; clear hcon he
          generalize m[k].length = rn at *
          generalize m'[k].length = rn' at *
          go_wp2_with fail
          refine (HCON.out q).mono ?_
          rintro e w' ⟨rfl, q3, rfl⟩
          go_wp2_with fail
          exact ⟨⟨k + 1, q + q3, by omega, by go_num, rfl, HST.out⟩, by simp [intOf]; omega⟩
        · have hne : ¬ m = m' := fun e => he (by subst e; rfl)
          have hv := eqM_no hne
          have HV := Lib.hid hv; clear hv hne
          have hcon : ∀ q, Calls Tryz.prog 98 #[.slice ra m[k].length rcap, .slice ra' m'[k].length rcap'] (w.drewN q) fun e w' => e = .returned (.bool false) ∧ ∃ q', w' = (w.drewN q).drewN q' := fun q =>
            (sleq_any B _ _ _ _ (w.drewN q) (HROW.out.drewN q) (HROW'.out.drewN q) (HF.out.2 k hkl) (HF'.out.2 k hkl')).mono fun e w' ⟨h1, h2⟩ => ⟨by rw [h1, eqL_no he], h2⟩
          have HCON := Lib.hid hcon; clear hcon he
          generalize m[k].length = rn at *
          generalize m'[k].length = rn' at *
          go_wp2_with fail
          refine (HCON.out q).mono ?_
          rintro e w' ⟨rfl, q3, rfl⟩
          go_wp2_with fail
          go_ret
          exact ⟨ret_boolean HV.out.symm, q + q3, rfl⟩
      · obtain rfl : k = n := by omega
        have hv := eq_all HN.out HN'.out HP.out
        have HV := Lib.hid hv; clear hv
        go_wp2_with fail
        go_ret
        exact ⟨ret_boolean HV.out.symm, _, rfl⟩
  · have hne : ¬ m = m' := fun e => hlen (by rw [← HN.out, ← HN'.out, e])
    have hv := eqM_no hne
    have HV := Lib.hid hv; clear hv hne
    have hq : ((n : Int) != (n' : Int)) = true := by rw [bne_iff_ne]; omega
    clear hlen
    go_enter Tryz.func97, Tryz.ntmps97
    go_wp2_with fail
    all_goals go_ret
    all_goals exact ⟨ret_boolean HV.out.symm, 0, rfl⟩

set_option maxHeartbeats 1000000 in
theorem eqci_any (B : Nat) (v v' : Value) (m m' : List (List Int)) (w : World) (h : MatB B w v m) (h' : MatB B w v' m') (hf : RowsFit m) (hf' : RowsFit m') :
    Calls Tryz.prog 30 #[v, v'] w fun e w' => e = .returned (.bool (eqM m m')) ∧ ∃ q, w' = w.drewN q := by
  have hc := eqf_any B v v' m m' w h h' hf hf'
  have HC := Lib.hid hc
  clear hc h h' hf hf'
  generalize eqM m m' = c at *
  go_enter Tryz.func30, Tryz.ntmps30
  go_wp2_with fail
  refine HC.out.mono ?_
  rintro e w' ⟨rfl, q, rfl⟩
  go_wp2_with fail
  go_ret
  exact ⟨rfl, q, rfl⟩
theorem eqcs_b (B B' : Nat) (v v' : Value) (m m' : List (List Int)) (w : World) (h : MatB B w v m) (h' : MatB B' w v' m') (hf : RowsFit m) (hf' : RowsFit m') :
    Calls Tryz.prog 31 #[v, v'] w fun e w' => e = .returned (.bool (eqM m m')) ∧ Below w.heap.size w w' :=
  (eqcs_any (max B B') v v' m m' w (h.mono (Nat.le_max_left _ _)) (h'.mono (Nat.le_max_right _ _)) hf hf').mono fun e w' ⟨h1, q, h2⟩ => ⟨h1, by rw [h2]; exact below_drewN q⟩
theorem eqci_b (B B' : Nat) (v v' : Value) (m m' : List (List Int)) (w : World) (h : MatB B w v m) (h' : MatB B' w v' m') (hf : RowsFit m) (hf' : RowsFit m') :
    Calls Tryz.prog 30 #[v, v'] w fun e w' => e = .returned (.bool (eqM m m')) ∧ Below w.heap.size w w' :=
  (eqci_any (max B B') v v' m m' w (h.mono (Nat.le_max_left _ _)) (h'.mono (Nat.le_max_right _ _)) hf hf').mono fun e w' ⟨h1, q, h2⟩ => ⟨h1, by rw [h2]; exact below_drewN q⟩
end Go.Proofs.YtppimgkampkfjaaGreatDoor
namespace Go.Proofs.YtppimgkampkfjaaGreatDoor
open Go.RowKit

theorem eqM_get (a b : List (List Int)) (q : List Nat) : eqM (pick a (intL q)) b = selP a b q := rfl

set_option maxHeartbeats 4000000 in
set_option maxRecDepth 100000 in
theorem ob_any (B B' : Nat) (v v' : Value) (m m' : List (List Int)) (w : World) (h : MatB B w v m) (h' : MatB B' w v' m') (hB : B ≤ w.heap.size) (hB' : B' ≤ w.heap.size) (hf : RowsFit m) (hf' : RowsFit m') :
    Calls Tryz.prog 100 #[v, v'] w (MakesM w (obV m m')) := by
  obtain ⟨a, cap, rfl⟩ := h.slice
  have hl := hf.1
  have HR := Lib.hid h; clear h
  have HR' := Lib.hid h'; clear h'
  have HF := Lib.hid hf; clear hf
  have HF' := Lib.hid hf'; clear hf'
  by_cases hI : IsC m
  · have hn4 := hI.2.2.2
    have hn1 := hI.2.2.1
    have HC := Lib.hid (isB_yes hI)
    have HRW := Lib.hid hI.1
    have HV := Lib.hid (obV_yes (b := m') hI)
    have HSO := Lib.hid (step_ok m.length hn1 hn4)
    have hN24 := ords_len hn4
    have HSY := Lib.hid (fun t (ht : t < (ords m.length).length) => selT_yes (a := m) (b := m') ht)
    have HSN := Lib.hid (fun t (ht : t < (ords m.length).length) => selT_no (a := m) (b := m') ht)
    have HSL := Lib.hid (selT_len m m')
    have HS0 := Lib.hid (show selT m m' 0 = [] by unfold selT; rw [List.take_zero]; rfl)
    have HEQ := Lib.hid (eqM_get m m')
    have HPS := Lib.hid (fun (q : List Nat) (hq : q.length ≤ 4) => small_of (fullF_small (ptsF m (intL q)) (intL q).length (by rw [intL_len]; omega)))
    have HPK := Lib.hid (fun (q : List Nat) => show pick m (intL q) = fullF (ptsF m (intL q)) (intL q).length from rfl)
    clear hI
    generalize obV m m' = R at *
    generalize hT : ords m.length = T at *
    have HT := Lib.hid hT; clear hT
    generalize hTL : T.length = N at *
    have HTL := Lib.hid hTL; clear hTL
    generalize hn : m.length = n at *
    have HN := Lib.hid hn; clear hn
    unfold maxLen at hl
    have HFO := Lib.hid (fun w1 => fo_any n w1 (by omega))
    go_enter Tryz.func100, Tryz.ntmps100
    go_wp2_with fail
    refine (icm_w B _ m true HC.out _ HR.out HF.out).mono ?_
    rintro e w1 ⟨rfl, hb1⟩
    have HB1 := Lib.hid hb1
    have hs1 := hb1.size
    clear hb1
    go_wp2_with fail
    refine (HFO.out w1).mono ?_
    rintro e w2 ⟨x0, rfl, hx0, hb2⟩
    have HB2 := Lib.hid (HB1.out.trans (hb2.mono hs1))
    have hs2 := hb2.size
    have HX0 := Lib.hid hx0.1
    clear hb2 hx0
    have hso := HSO.out
    unfold StepOk at hso
    rw [HT.out] at hso
    obtain ⟨hfirst, hpos, hstep, htab⟩ := hso
    rw [HTL.out] at hpos hstep
    have HFI := Lib.hid hfirst; have HSTP := Lib.hid hstep; have HTAB := Lib.hid htab
    clear hfirst hstep htab HSO
    have hd0 : decide (0 < N) = true := decide_eq_true hpos
    go_wp2_with fail
    go_loopg [5, 6, 7] N (fun gk o x ok wr => ∃ (t C : Nat) (hs : List Value), t ≤ N ∧ gk = N - t ∧ ok = .bool (decide (t < N)) ∧ MatH w.heap.size wr o (tabL (selT m m' t)) hs ∧ (∀ y ∈ hs, ∀ g, y.ownBlock = some g → g < C) ∧ w.heap.size ≤ C ∧ C ≤ wr.heap.size ∧ (t < N → RowI C wr.heap.size wr x (intL (T.getD t []))) ∧ Below w.heap.size w wr)
    case atStart =>
      refine ⟨0, w1.heap.size, [], Nat.zero_le _, rfl, by rw [hd0], ?_, fun y hy => by simp at hy, hs1, hs2, fun _ => ?_, HB2.out⟩
      · rw [HS0.out]; exact MatH.nil _ _
      · rw [HFI.out]; exact HX0.out
    case round =>
      clear hd0
      obtain ⟨t, C, hs, ht, rfl, rfl, hM, hhs, hwC, hCw, hX, hb⟩ := hrel
      have HM := Lib.hid hM; clear hM
      have HHS := Lib.hid hhs; clear hhs
      have HX := Lib.hid hX; clear hX
      have HB := Lib.hid hb; clear hb
      by_cases hlt : t < N
      · have hlt' : decide (t < N) = true := decide_eq_true hlt
        rw [hlt']
        have hx := HX.out hlt
        obtain ⟨hq1, hq2⟩ := HSTP.out t hlt
        have hqm := List.mem_of_getElem? hq1
        obtain ⟨hql, hqp⟩ := HTAB.out _ hqm
        have HSY' := Lib.hid (HSY.out t hlt)
        have HSN' := Lib.hid (HSN.out t hlt)
        have HNX := Lib.hid hq2
        have HPT := Lib.hid (tab_pts hql hqp)
        have HEQ' := Lib.hid (HEQ.out (T.getD t []))
        have HPS' := Lib.hid (HPS.out (T.getD t []) (by omega))
        have HPK' := Lib.hid (HPK.out (T.getD t []))
        have HQL := Lib.hid hql
        clear hq1 hq2 hqm hql hqp hlt'
        obtain ⟨xa, xcap, rfl⟩ := hx.slice
        rw [intL_len, HQL.out] at hx ⊢
        have HXR := Lib.hid hx; clear hx HX
        have hsl := HSL.out t
        generalize T.getD t [] = q at *
        have hsw : w.heap.size ≤ wr.heap.size := HB.out.size
        have hiq : (intL q).length = n := by rw [intL_len]; exact HQL.out
        have HIQ := Lib.hid hiq; clear hiq
        go_wp2_with fail
        refine (pickp_any B wr.heap.size _ _ m (intL q) wr (HR.out.below HB.out hB) HXR.out.rowB (Nat.le_trans hB hsw) (Nat.le_refl _) HF.out (by rw [HN.out]; exact HRW.out) (by rw [HN.out]; exact HPT.out) (by rw [HIQ.out]; omega)).mono ?_
        rintro e w3 ⟨p, rfl, hp, hb3⟩
        have HP := Lib.hid hp
        have HB3 := Lib.hid (HB.out.trans (hb3.mono hsw))
        have HM3 := Lib.hid (HM.out.step hb3)
        have HX3 := Lib.hid (HXR.out.step hb3)
        have hs3 := hb3.size
        clear hp hb3
        go_wp2_with fail
        refine (eqci_b _ B' p _ (pick m (intL q)) m' w3 HP.out.matB (HR'.out.below HB3.out hB') (by rw [HPK'.out]; exact fit_of_small HPS'.out) HF'.out).mono ?_
        rintro e w4 ⟨rfl, hb4⟩
        rw [HEQ'.out]
        have HB4 := Lib.hid (HB3.out.trans (hb4.mono HB3.out.size))
        have HM4 := Lib.hid (HM3.out.step hb4)
        have HX4 := Lib.hid (HX3.out.step hb4)
        have hs4 := hb4.size
        clear hb4
        by_cases hsel : selP m m' q = true
        · rw [hsel]
          have HST := Lib.hid (HSY'.out hsel)
          clear hsel
          have hdis : ∀ y ∈ hs, y.ownBlock = none ∨ y.ownBlock ≠ (Value.slice xa n xcap).ownBlock := fun y hy => by
            cases hyb : y.ownBlock with
            | none => exact Or.inl rfl
            | some g =>
              right
              intro e
              have h1 := HHS.out y hy g hyb
              have h2 := (HX4.out.1.lt g e.symm).1
              omega
          have HDIS := Lib.hid hdis; clear hdis
          have hml : (tabL (selT m m' t)).length ≤ 1048576 := by rw [tabL_len]; omega
          have HML := Lib.hid hml; clear hml
          have hsw4 : w.heap.size ≤ w4.heap.size := by omega
          go_wp2_with (at_builtin; go_must (refine append_rowH HM4.out (HX4.out.mono hwC (Nat.le_refl _)) hsw4 HDIS.out rfl rfl rfl rfl HML.out ?_; intro v5 w5 hm5 hg5 hl5))
          have hm5' : MatH w.heap.size w5 v5 (tabL (selT m m' (t + 1))) (hs ++ [Value.slice xa n xcap]) := by
            rw [← HST.out, ← tabL_snoc]; exact hm5
          have HM5 := Lib.hid hm5'
          have hx5 : RowI C w5.heap.size w5 (Value.slice xa n xcap) (intL q) := by
            refine (HX4.out.grown hg5 ?_).mono (Nat.le_refl _) hg5.size
            cases hxb : (Value.slice xa n xcap).ownBlock with
            | none => exact Or.inl rfl
            | some g =>
              right
              intro e
              rcases own_other HX4.out.1 HM4.out.1 with h5 | h5
              · rw [h5] at e; cases e
              · exact h5 (by rw [← e, hxb])
          have HX5 := Lib.hid hx5
          have HB5 := Lib.hid (HB4.out.grown hg5 hsw4 (fun k hk => (HM4.out.1.lt k hk).1))
          have hs5 := hg5.size
          clear hm5 hm5' hx5 hg5 hl5
          go_wp2_with fail
          refine (nxt_any w5.heap.size _ n q w5 HX5.out.rowB (Nat.le_refl _) HQL.out hn1 hn4).mono ?_
          rintro e w6 ⟨hb6, hret⟩
          rw [HNX.out] at hret
          have HB6 := Lib.hid (HB5.out.trans (hb6.mono (by omega)))
          have HM6 := Lib.hid (HM5.out.step hb6)
          have hs6 := hb6.size
          clear hb6
          have hbnd : ∀ y ∈ hs ++ [Value.slice xa n xcap], ∀ g, y.ownBlock = some g → g < w5.heap.size := fun y hy g hg => by
            rcases List.mem_append.1 hy with h1 | h1
            · have := HHS.out y h1 g hg; omega
            · have e := List.mem_singleton.1 h1
              subst e
              exact (HX5.out.1.lt g hg).2
          have HBND := Lib.hid hbnd; clear hbnd
          by_cases hn2 : t + 1 < N
          · rw [(HSTP.out (t + 1) hn2).1] at hret
            obtain ⟨x', rfl, hx'⟩ := hret
            have HX' := Lib.hid hx'
            have hd : decide (t + 1 < N) = true := decide_eq_true hn2
            have HD := Lib.hid hd
            clear hx' hd
            go_wp2_with fail
            go_roundg (N - (t + 1))
            case measure => omega
            case rel => exact ⟨t + 1, w5.heap.size, hs ++ [Value.slice xa n xcap], by omega, rfl, by rw [HD.out], HM6.out, HBND.out, by omega, hs6, fun _ => HX'.out, HB6.out⟩
          · rw [List.getElem?_eq_none (by rw [HTL.out]; omega)] at hret
            have hret' : e = .returned (.tuple #[.slice none 0 0, .bool false]) := hret
            subst hret'
            have hd : decide (t + 1 < N) = false := decide_eq_false hn2
            have HD := Lib.hid hd
            clear hret hd
            go_wp2_with fail
            go_roundg (N - (t + 1))
            case measure => omega
            case rel => exact ⟨t + 1, w5.heap.size, hs ++ [Value.slice xa n xcap], by omega, rfl, by rw [HD.out], HM6.out, HBND.out, by omega, hs6, fun h => absurd h hn2, HB6.out⟩
        · have hsel' : selP m m' q = false := by simpa using hsel
          rw [hsel']
          have HST := Lib.hid (HSN'.out hsel')
          clear hsel hsel'
          go_wp2_with fail
          refine (nxt_any w4.heap.size _ n q w4 HX4.out.rowB (Nat.le_refl _) HQL.out hn1 hn4).mono ?_
          rintro e w6 ⟨hb6, hret⟩
          rw [HNX.out] at hret
          have HB6 := Lib.hid (HB4.out.trans (hb6.mono (by omega)))
          have hm6 : MatH w.heap.size w6 u5 (tabL (selT m m' (t + 1))) hs := by rw [← HST.out]; exact HM4.out.step hb6
          have HM6 := Lib.hid hm6
          have hs6 := hb6.size
          clear hb6 hm6
          have hbnd : ∀ y ∈ hs, ∀ g, y.ownBlock = some g → g < w4.heap.size := fun y hy g hg => by have := HHS.out y hy g hg; omega
          have HBND := Lib.hid hbnd; clear hbnd
          by_cases hn2 : t + 1 < N
          · rw [(HSTP.out (t + 1) hn2).1] at hret
            obtain ⟨x', rfl, hx'⟩ := hret
            have HX' := Lib.hid hx'
            have hd : decide (t + 1 < N) = true := decide_eq_true hn2
            have HD := Lib.hid hd
            clear hx' hd
            go_wp2_with fail
            go_roundg (N - (t + 1))
            case measure => omega
            case rel => exact ⟨t + 1, w4.heap.size, hs, by omega, rfl, by rw [HD.out], HM6.out, HBND.out, by omega, hs6, fun _ => HX'.out, HB6.out⟩
          · rw [List.getElem?_eq_none (by rw [HTL.out]; omega)] at hret
            have hret' : e = .returned (.tuple #[.slice none 0 0, .bool false]) := hret
            subst hret'
            have hd : decide (t + 1 < N) = false := decide_eq_false hn2
            have HD := Lib.hid hd
            clear hret hd
            go_wp2_with fail
            go_roundg (N - (t + 1))
            case measure => omega
            case rel => exact ⟨t + 1, w4.heap.size, hs, by omega, rfl, by rw [HD.out], HM6.out, HBND.out, by omega, hs6, fun h => absurd h hn2, HB6.out⟩
      · obtain rfl : N = t := by omega
        have hlt' : decide (N < N) = false := by simp
        rw [hlt']
        clear hlt'
        go_wp2_with fail
        go_ret
        exact ⟨_, rfl, by rw [HV.out]; exact ⟨HM.out.matI, Nat.le_refl _⟩, HB.out⟩
  · have HC := Lib.hid (isB_no hI)
    have HV := Lib.hid (obV_no (b := m') hI)
    clear hI
    generalize obV m m' = R at *
    generalize hn : m.length = n at *
    have HN := Lib.hid hn; clear hn
    unfold maxLen at hl
    go_enter Tryz.func100, Tryz.ntmps100
    go_wp2_with fail
    refine (icm_w B _ m false HC.out _ HR.out HF.out).mono ?_
    rintro e w1 ⟨rfl, hb1⟩
    have HB1 := Lib.hid hb1; clear hb1
    go_wp2_with fail
    go_ret
    exact makesM_nil HV.out (MatI.nil _ _ _) HB1.out

theorem MatI.rowI {A B : Nat} {w : World} {a : Option Addr} {n cap : Nat} {m : List (List Int)} (h : MatI A B w (.slice a n cap) m) {j : Nat} (hj : j < m.length) :
    ∃ b hv, a = some ⟨b, 0, none⟩ ∧ w.cell? ⟨b, j, none⟩ = some hv ∧ RowI A B w hv (m.getD j []) := by
  obtain ⟨hs, h1, h2, h3, _⟩ := h
  obtain ⟨hv, h4, h5⟩ := h3 j hj
  rcases h1.2 with ⟨_, he⟩ | ⟨g, cap', cur, hval, _⟩
  · omega
  · have ha : a = some ⟨g, 0, none⟩ := by injection hval
    have hn : n = m.length := by injection hval
    subst ha
    subst hn
    exact ⟨g, hv, rfl, by rw [h1.cellAt j (by omega)]; exact h4, by rw [getD_row m j hj]; exact h5⟩

set_option maxHeartbeats 1000000 in
set_option maxRecDepth 100000 in
theorem syi_any (B : Nat) (v : Value) (m : List (List Int)) (w : World) (h : MatB B w v m) (hB : B ≤ w.heap.size) (hf : RowsFit m) :
    Calls Tryz.prog 41 #[v] w (MakesM w (obV m m)) := by
  have HO := Lib.hid (ob_any B B v v m m w h h hB hB hf hf)
  clear h
  go_enter Tryz.func41, Tryz.ntmps41
  go_wp2_with fail
  refine HO.out.mono ?_
  rintro e w2 ⟨x, rfl, hx, hb⟩
  have HX := Lib.hid hx; have HB := Lib.hid hb
  clear hx hb
  go_wp2_with fail
  go_ret
  exact ⟨_, rfl, HX.out, HB.out⟩

set_option maxHeartbeats 1000000 in
set_option maxRecDepth 100000 in
theorem aii_any (B B' : Nat) (v v' : Value) (m m' : List (List Int)) (w : World) (h : MatB B w v m) (h' : MatB B' w v' m') (hB : B ≤ w.heap.size) (hB' : B' ≤ w.heap.size) (hf : RowsFit m) (hf' : RowsFit m') :
    Calls Tryz.prog 33 #[v, v'] w (MakesS2 w (isoL m m') (.bool (isoB m m'))) := by
  have HO := Lib.hid (ob_any B B' v v' m m' w h h' hB hB' hf hf')
  have hl24 := obV_len m m'
  clear h h'
  by_cases h0 : (obV m m').length = 0
  · have HL := Lib.hid (show isoL m m' = [] by unfold isoL; rw [List.eq_nil_of_length_eq_zero h0]; rfl)
    have HB := Lib.hid (show isoB m m' = false from decide_eq_false (fun h => h h0))
    generalize isoL m m' = l at *
    generalize isoB m m' = c at *
    have HLN := Lib.hid h0
    clear h0
    go_enter Tryz.func33, Tryz.ntmps33
    go_wp2_with fail
    refine HO.out.mono ?_
    rintro e w2 ⟨x, rfl, hx, hb⟩
    obtain ⟨xa, xcap, rfl⟩ := hx.1.slice
    rw [HLN.out]
    have HB2 := Lib.hid hb
    clear hx hb
    go_wp2_with fail
    go_ret2
    exact ⟨_, by rw [HB.out]; rfl, by rw [HL.out]; exact ⟨RowI.nil _ _ _, Nat.le_refl _⟩, HB2.out⟩
  · have HB := Lib.hid (show isoB m m' = true from decide_eq_true h0)
    have HL := Lib.hid (show isoL m m' = (obV m m').getD 0 [] from rfl)
    generalize isoL m m' = l at *
    generalize isoB m m' = c at *
    generalize hln : (obV m m').length = L at *
    have HLN := Lib.hid hln; clear hln
    have hz : ((L : Int) == 0) = false := by rw [beq_eq_false_iff_ne]; omega
    go_enter Tryz.func33, Tryz.ntmps33
    go_wp2_with fail
    refine HO.out.mono ?_
    rintro e w2 ⟨x, rfl, hx, hb⟩
    obtain ⟨xa, xcap, rfl⟩ := hx.1.slice
    rw [HLN.out] at hx ⊢
    obtain ⟨b, hv, rfl, hcell, hrow⟩ := hx.1.rowI (j := 0) (by rw [HLN.out]; omega)
    rw [← HL.out] at hrow
    have HROW := Lib.hid hrow
    have HB2 := Lib.hid hb
    clear hx hb hrow
    go_wp2_with fail
    go_ret2
    exact ⟨_, by rw [HB.out]; rfl, ⟨HROW.out, Nat.le_refl _⟩, HB2.out⟩
end Go.Proofs.YtppimgkampkfjaaGreatDoor
