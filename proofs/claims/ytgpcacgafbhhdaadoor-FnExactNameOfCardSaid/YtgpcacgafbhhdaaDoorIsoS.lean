/-
  AreIsomorphic and SymmetriesOf of the model: what each call returns.
-/
import Derived.Test.YtgpcacgafbhhdaaDoorIso
namespace Go.Proofs.YtgpcacgafbhhdaaDoor
open Go.RowKit

/-! ### The table in the walk's world -/
def TabH (A B : Nat) (w : World) (v : Value) (m : List (List Int)) (hl : List Value) : Prop :=
  w.ownsRow A 31 1 v m.length hl ∧ (∀ g, v.ownBlock = some g → g < B) ∧ (∀ j (h : j < m.length), ∃ hv, hl[j]? = some hv ∧ RowI A B w hv m[j]) ∧
    ∀ (i j : Nat) (x y : Value), i ≠ j → hl[i]? = some x → hl[j]? = some y → x.ownBlock = none ∨ x.ownBlock ≠ y.ownBlock
theorem TabH.same {A B : Nat} {w w' : World} {v : Value} {m : List (List Int)} {hl : List Value} (h : TabH A B w v m hl) (hs : SameIn A B w w') : TabH A B w' v m hl :=
  ⟨ownsRow_same h.1 h.2.1 hs, h.2.1, fun j hj => by
    obtain ⟨hv, h1, h2⟩ := h.2.2.1 j hj
    exact ⟨hv, h1, h2.same hs⟩, h.2.2.2⟩
theorem TabH.row {A B : Nat} {w : World} {a : Option Addr} {n cap : Nat} {m : List (List Int)} {hl : List Value} (h : TabH A B w (.slice a n cap) m hl) {j : Nat} (hj : j < m.length) :
    ∃ b hv, a = some ⟨b, 0, none⟩ ∧ hl[j]? = some hv ∧ w.cell? ⟨b, j, none⟩ = some hv ∧ RowI A B w hv (m.getD j []) := by
  obtain ⟨h1, h2, h3, _⟩ := h
  obtain ⟨hv, h4, h5⟩ := h3 j hj
  rcases h1.2 with ⟨_, he⟩ | ⟨g, cap', cur, hval, _⟩
  · omega
  · have ha : a = some ⟨g, 0, none⟩ := by injection hval
    have hn : n = m.length := by injection hval
    subst ha
    subst hn
    exact ⟨g, hv, rfl, h4, by rw [h1.cellAt j (by omega)]; exact h4, by rw [getD_row m j hj]; exact h5⟩
theorem sameIn_grown {A B : Nat} {w w' : World} {S : Option Nat} (hg : w.grownBy w' S) (hB : B ≤ w.heap.size) (hS : ∀ g, S = some g → g < A ∨ B ≤ g) : SameIn A B w w' := fun k h1 h2 =>
  hg.block k (by omega) (fun e => by have := hS k e.symm; omega)
theorem selT_head {a b : List (List Int)} {t : Nat} {q : List Nat} (h : selT a b (t + 1) = [q]) (ht : t + 1 ≤ (ords a.length).length) :
    (tabL (selT a b (ords a.length).length)).getD 0 [] = intL q ∧ (tabL (selT a b (ords a.length).length)).length ≠ 0 := by
  have e : ∃ r, selT a b (ords a.length).length = q :: r := by
    refine ⟨((ords a.length).drop (t + 1)).filter (selP a b), ?_⟩
    have h1 : (ords a.length).take (ords a.length).length = (ords a.length).take (t + 1) ++ (ords a.length).drop (t + 1) := by rw [List.take_length, List.take_append_drop]
    have h2 : selT a b (t + 1) = ((ords a.length).take (t + 1)).filter (selP a b) := rfl
    unfold selT
    rw [h1, List.filter_append, ← h2, h]
    rfl
  obtain ⟨r, hr⟩ := e
  rw [hr]
  exact ⟨rfl, by simp [tabL]⟩

set_option maxHeartbeats 4000000 in
set_option maxRecDepth 100000 in
theorem ais_ok (B B' : Nat) (v v' : Value) (m m' : List (List Int)) (w : World) (h : MatB B w v m) (h' : MatB B' w v' m') (hB : B ≤ w.heap.size) (hB' : B' ≤ w.heap.size) (hf : RowsFit m) (hf' : RowsFit m') (hI : IsC m) (hI' : IsC m') (he : m.length = m'.length) :
    Calls Tryd.prog 18 #[v, v'] w (MakesS2 w (isoL m m') (.bool (isoB m m'))) := by
  obtain ⟨a, cap, rfl⟩ := h.slice
  obtain ⟨a', cap', rfl⟩ := h'.slice
  have hl := hf.1
  have HR := Lib.hid h; clear h
  have HR' := Lib.hid h'; clear h'
  have HF := Lib.hid hf; clear hf
  have HF' := Lib.hid hf'; clear hf'
  have hn4 := hI.2.2.2
  have hn1 := hI.2.2.1
  have HC := Lib.hid (isB_yes hI)
  have HC' := Lib.hid (isB_yes hI')
  have HV := Lib.hid (obV_yes (b := m') hI)
  have HSO := Lib.hid (step_ok m.length hn1 hn4)
  have hN24 := ords_len hn4
  have HSY := Lib.hid (fun t (ht : t < (ords m.length).length) => selT_yes (a := m) (b := m') ht)
  have HSN := Lib.hid (fun t (ht : t < (ords m.length).length) => selT_no (a := m) (b := m') ht)
  have HS0 := Lib.hid (show selT m m' 0 = [] by unfold selT; rw [List.take_zero]; rfl)
  have HHD := Lib.hid (fun t q (h : selT m m' (t + 1) = [q]) ht => selT_head h ht)
  have HEQ := Lib.hid (eqM_get m m')
  have HPS := Lib.hid (fun (q : List Nat) (hq : q.length ≤ 4) => small_of (fullF_small (ptsF m (intL q)) (intL q).length (by rw [intL_len]; omega)))
  have HPK := Lib.hid (fun (q : List Nat) => show pick m (intL q) = fullF (ptsF m (intL q)) (intL q).length from rfl)
  have HRO := Lib.hid (fun (q : List Nat) (hq : IsOrd m.length (intL q)) => show relM m (intL q) = pick m (intL q) ∧ relB m (intL q) = true from ⟨relM_yes ⟨hI, hq⟩, relB_yes ⟨hI, hq⟩⟩)
  have HL := Lib.hid (show isoL m m' = (obV m m').getD 0 [] from rfl)
  have HBB := Lib.hid (show isoB m m' = decide ((obV m m').length ≠ 0) from rfl)
  clear hI hI'
  generalize isoL m m' = rl at *
  generalize isoB m m' = rb at *
  generalize obV m m' = R at *
  generalize hT : ords m.length = T at *
  have HT := Lib.hid hT; clear hT
  generalize hTL : T.length = N at *
  have HTL := Lib.hid hTL; clear hTL
  generalize hn : m.length = n at *
  have HN := Lib.hid hn; clear hn
  generalize hn' : m'.length = n' at *
  have HN' := Lib.hid hn'; clear hn'
  subst he
  have hb : ((n : Int) != (n : Int)) = false := by rw [bne_eq_false_iff_eq]
  unfold maxLen at hl
  have HLO := Lib.hid (fun w1 => l3o_any n w1 hn4)
  go_enter Tryd.func18, Tryd.ntmps18
  go_wp2_with fail
  refine (isc_w B _ m true HC.out _ HR.out HF.out).mono ?_
  rintro e w1 ⟨rfl, hb1⟩
  have HB1 := Lib.hid hb1
  have hs1 := hb1.size
  clear hb1
  go_wp2_with fail
  refine (isc_w B' _ m' true HC'.out _ (HR'.out.below HB1.out hB') HF'.out).mono ?_
  rintro e w2 ⟨rfl, hb2⟩
  have HB2 := Lib.hid (HB1.out.trans (hb2.mono hs1))
  clear hb2
  go_wp2_with fail
  refine (HLO.out w2).mono ?_
  rintro e w3 ⟨x, rfl, hx, hb3⟩
  have HB3 := Lib.hid (HB2.out.trans (hb3.mono HB2.out.size))
  have hs2 := HB2.out.size
  have hs3 := hb3.size
  obtain ⟨la, lcap, rfl⟩ := hx.1.slice
  rw [tabL_len] at hx ⊢
  rw [HT.out] at hx ⊢
  rw [HTL.out] at hx ⊢
  have HX := Lib.hid hx.1
  clear hx hb3 hb
  have hso := HSO.out
  unfold StepOk at hso
  rw [HT.out] at hso
  obtain ⟨_, hpos, hstep, htab⟩ := hso
  rw [HTL.out] at hpos hstep
  have HSTP := Lib.hid hstep; have HTAB := Lib.hid htab
  clear hstep htab HSO
  have HGT := Lib.hid (tabL_get T)
  go_wp2_with fail
  go_loopw [7] (fun i wr => ∃ (t : Nat) (wq : World), wq = wr ∧ t ≤ N ∧ i = .int .i64 t ∧ Hid (selT m m' t = []) ∧ Below w3.heap.size w3 wq) (fun i _ => N - (intOf i).toNat)
  case atStart => exact ⟨0, _, rfl, Nat.zero_le _, rfl, HS0, Below.refl _ _⟩
  case round =>
    obtain ⟨t, wq, rfl, ht, rfl, hse, hbq⟩ := hrel
    have HBQ := Lib.hid hbq
    have hsq := hbq.size
    clear hbq
    by_cases hlt : t < N
    · have hlt' : decide (t < N) = true := decide_eq_true hlt
      obtain ⟨hq1, _⟩ := HSTP.out t hlt
      have hqm := List.mem_of_getElem? hq1
      obtain ⟨hql, hqp⟩ := HTAB.out _ hqm
      have HSY' := Lib.hid (HSY.out t hlt)
      have HSN' := Lib.hid (HSN.out t hlt)
      have HHD' := Lib.hid (HHD.out t (T.getD t []))
      obtain ⟨hr1, hr2⟩ := HRO.out (T.getD t []) (tab_ord hql hqp)
      have HR1 := Lib.hid hr1; have HR2 := Lib.hid hr2
      have HEQ' := Lib.hid (HEQ.out (T.getD t []))
      have HPS' := Lib.hid (HPS.out (T.getD t []) (by omega))
      have HPK' := Lib.hid (HPK.out (T.getD t []))
      have HQL := Lib.hid hql
      have htl : t < T.length := by rw [HTL.out]; exact hlt
      have HGE := Lib.hid (HGT.out t htl)
      clear hq1 hqm hql hqp hr1 hr2
      have hmi : MatI w2.heap.size w3.heap.size wq (.slice la N lcap) (tabL T) := HX.out.same (SameIn.of_below HBQ.out (Nat.le_refl _))
      obtain ⟨lb, hv, rfl, hcell, hrow⟩ := hmi.rowI (j := t) (by rw [tabL_len]; exact htl)
      rw [HGE.out] at hrow
      clear hmi
      obtain ⟨ra, rcap, rfl⟩ := hrow.slice
      rw [intL_len, HQL.out] at hrow hcell
      have HROW := Lib.hid hrow; clear hrow
      have hBw : B ≤ wq.heap.size := by omega
      have HBw := Lib.hid (HB3.out.trans (HBQ.out.mono (by omega)))
      have HCELL := Lib.hid hcell
      generalize T.getD t [] = q at *
      have hiq : (intL q).length = n := by rw [intL_len]; exact HQL.out
      have HIQ := Lib.hid hiq; clear hiq
      go_wp2_with fail
      refine (rels_any B w3.heap.size _ _ m (intL q) wq (HR.out.below HBw.out hB) HROW.out.rowB hBw hsq HF.out (by rw [HIQ.out]; unfold maxLen; omega) HROW.out.capOk).mono ?_
      rintro e w4 ⟨y, rfl, hy, hb4⟩
      rw [HR1.out] at hy
      rw [HR2.out]
      have HY := Lib.hid hy
      have HB4 := Lib.hid (HBQ.out.trans (hb4.mono hsq))
      have hs4 := hb4.size
      have hbw4 := HBw.out.trans (hb4.mono (by omega))
      have HBw4 := Lib.hid hbw4
      clear hy hb4 hcell hbw4
      go_wp2_with fail
      refine (eqcs_b _ B' y _ (pick m (intL q)) m' w4 HY.out.matB (HR'.out.below HBw4.out hB') (by rw [HPK'.out]; exact fit_of_small HPS'.out) HF'.out).mono ?_
      rintro e w5 ⟨rfl, hb5⟩
      rw [HEQ'.out]
      have HB5 := Lib.hid (HB4.out.trans (hb5.mono (by omega)))
      have HBw5 := Lib.hid (HBw4.out.trans (hb5.mono (by omega)))
      have hs5 := hb5.size
      clear hb5
      by_cases hsel : selP m m' q = true
      · rw [hsel]
        obtain ⟨h1, h2⟩ := HHD'.out (by rw [← HSY'.out hsel, hse.out]; rfl) hlt
        rw [← HV.out] at h1 h2
        have HQ1 := Lib.hid (HL.out.trans h1)
        have HQ2 := Lib.hid (HBB.out.trans (decide_eq_true h2))
        clear h1 h2 hsel
        have hlb : lb < w3.heap.size := by
          have := World.block_lt_of_cell? wq _ HCELL.out
          obtain ⟨hs9, g1, g2, _⟩ := HX.out
          exact g2 lb rfl
        have hcell5 : w5.cell? ⟨lb, t, none⟩ = some (.slice ra n rcap) := by
          have h6 := HB5.out.cell (p := ⟨lb, t, none⟩) hlb
          have h7 := HBQ.out.cell (p := ⟨lb, t, none⟩) hlb
          rw [h6, ← h7]; exact HCELL.out
        have HROW5 := Lib.hid (HROW.out.same (fun k _ hk => (HB5.out.block k hk).trans (HBQ.out.block k hk).symm))
        go_wp2_with fail
        go_ret2
        exact ⟨_, by rw [HQ2.out]; rfl, by rw [HQ1.out]; exact ⟨HROW5.out.mono hs2 (by omega), Nat.le_refl _⟩, HBw5.out⟩
      · have hsel' : selP m m' q = false := by simpa using hsel
        rw [hsel']
        have HST := Lib.hid (show selT m m' (t + 1) = [] by rw [← HSN'.out hsel']; exact hse.out)
        clear hsel hsel'
        go_wp2_with fail
        exact ⟨⟨t + 1, _, rfl, by omega, by go_num, HST, HB5.out⟩, by simp [intOf]; omega⟩
    · obtain rfl : N = t := by omega
      have hlt' : decide (N < N) = false := by simp
      have HQ1 := Lib.hid (show rl = [] by rw [HL.out, HV.out, hse.out]; rfl)
      have HQ2 := Lib.hid (show rb = false by rw [HBB.out, HV.out, hse.out]; rfl)
      have HBw := Lib.hid (HB3.out.trans (HBQ.out.mono (by omega)))
      go_wp2_with fail
      go_ret2
      exact ⟨_, by rw [HQ2.out]; rfl, by rw [HQ1.out]; exact ⟨(row_empty wq).mono HBw.out.size (Nat.le_refl _), Nat.le_refl _⟩, HBw.out.alloc HBw.out.size _⟩

set_option maxHeartbeats 2000000 in
set_option maxRecDepth 100000 in
theorem ais_no (B B' : Nat) (v v' : Value) (m m' : List (List Int)) (w : World) (h : MatB B w v m) (h' : MatB B' w v' m') (hB : B ≤ w.heap.size) (hB' : B' ≤ w.heap.size) (hf : RowsFit m) (hf' : RowsFit m') (hno : ¬ (IsC m ∧ IsC m' ∧ m.length = m'.length)) :
    Calls Tryd.prog 18 #[v, v'] w (MakesS2 w (isoL m m') (.bool (isoB m m'))) := by
  obtain ⟨a, cap, rfl⟩ := h.slice
  obtain ⟨a', cap', rfl⟩ := h'.slice
  have hl := hf.1
  have hl' := hf'.1
  have HR := Lib.hid h; clear h
  have HR' := Lib.hid h'; clear h'
  have HF := Lib.hid hf; clear hf
  have HF' := Lib.hid hf'; clear hf'
  have hbad := obV_bad hno
  have HQ1 := Lib.hid (show isoL m m' = [] by unfold isoL; rw [hbad]; rfl)
  have HQ2 := Lib.hid (show isoB m m' = false by unfold isoB; rw [hbad]; rfl)
  clear hbad
  generalize isoL m m' = rl at *
  generalize isoB m m' = rb at *
  unfold maxLen at hl hl'
  by_cases hI : IsC m
  · have HC := Lib.hid (isB_yes hI)
    by_cases hI' : IsC m'
    · have HC' := Lib.hid (isB_yes hI')
      have hne : ¬ m.length = m'.length := fun e => hno ⟨hI, hI', e⟩
      clear hno hI hI'
      generalize m.length = n at *
      generalize m'.length = n' at *
      have hb : ((n : Int) != (n' : Int)) = true := by rw [bne_iff_ne]; omega
      have HNE := Lib.hid hne; clear hne
      go_enter Tryd.func18, Tryd.ntmps18
      go_wp2_with fail
      refine (isc_w B _ m true HC.out _ HR.out HF.out).mono ?_
      rintro e w1 ⟨rfl, hb1⟩
      have HB1 := Lib.hid hb1; clear hb1
      go_wp2_with fail
      refine (isc_w B' _ m' true HC'.out _ (HR'.out.below HB1.out hB') HF'.out).mono ?_
      rintro e w2 ⟨rfl, hb2⟩
      have HB2 := Lib.hid (HB1.out.trans (hb2.mono HB1.out.size)); clear hb2
      go_wp2_with fail
      go_ret2
      exact ⟨_, by rw [HQ2.out]; rfl, by rw [HQ1.out]; exact ⟨(row_empty w2).mono HB2.out.size (Nat.le_refl _), Nat.le_refl _⟩, HB2.out.alloc HB2.out.size _⟩
    · have HC' := Lib.hid (isB_no hI')
      clear hno hI hI'
      generalize m.length = n at *
      generalize m'.length = n' at *
      go_enter Tryd.func18, Tryd.ntmps18
      go_wp2_with fail
      refine (isc_w B _ m true HC.out _ HR.out HF.out).mono ?_
      rintro e w1 ⟨rfl, hb1⟩
      have HB1 := Lib.hid hb1; clear hb1
      go_wp2_with fail
      refine (isc_w B' _ m' false HC'.out _ (HR'.out.below HB1.out hB') HF'.out).mono ?_
      rintro e w2 ⟨rfl, hb2⟩
      have HB2 := Lib.hid (HB1.out.trans (hb2.mono HB1.out.size)); clear hb2
      go_wp2_with fail
      go_ret2
      exact ⟨_, by rw [HQ2.out]; rfl, by rw [HQ1.out]; exact ⟨(row_empty w2).mono HB2.out.size (Nat.le_refl _), Nat.le_refl _⟩, HB2.out.alloc HB2.out.size _⟩
  · have HC := Lib.hid (isB_no hI)
    clear hno hI
    generalize m.length = n at *
    generalize m'.length = n' at *
    go_enter Tryd.func18, Tryd.ntmps18
    go_wp2_with fail
    refine (isc_w B _ m false HC.out _ HR.out HF.out).mono ?_
    rintro e w1 ⟨rfl, hb1⟩
    have HB1 := Lib.hid hb1; clear hb1
    go_wp2_with fail
    go_ret2
    exact ⟨_, by rw [HQ2.out]; rfl, by rw [HQ1.out]; exact ⟨(row_empty w1).mono HB1.out.size (Nat.le_refl _), Nat.le_refl _⟩, HB1.out.alloc HB1.out.size _⟩
theorem ais_any (B B' : Nat) (v v' : Value) (m m' : List (List Int)) (w : World) (h : MatB B w v m) (h' : MatB B' w v' m') (hB : B ≤ w.heap.size) (hB' : B' ≤ w.heap.size) (hf : RowsFit m) (hf' : RowsFit m') :
    Calls Tryd.prog 18 #[v, v'] w (MakesS2 w (isoL m m') (.bool (isoB m m'))) := by
  by_cases hok : IsC m ∧ IsC m' ∧ m.length = m'.length
  · exact ais_ok B B' v v' m m' w h h' hB hB' hf hf' hok.1 hok.2.1 hok.2.2
  · exact ais_no B B' v v' m m' w h h' hB hB' hf hf' hok

/-! ### SymmetriesOf of the model -/
end Go.Proofs.YtgpcacgafbhhdaaDoor
