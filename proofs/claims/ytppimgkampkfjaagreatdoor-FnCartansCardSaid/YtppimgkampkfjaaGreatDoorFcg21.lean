/-
  AreIsomorphic and SymmetriesOf of the model: what each call returns.
  NameOfPart of the model: what the call returns.
-/
import Derived.Test.YtppimgkampkfjaaGreatDoorFcg20
import Derived.Test.YtppimgkampkfjaaGreatDoorFcg14
import Derived.Test.YtppimgkampkfjaaGreatDoorFcg19
namespace Go.Proofs.YtppimgkampkfjaaGreatDoor
open Go.RowKit

/-! ### The table in the walk's world -/
def TabH (A B : Nat) (w : World) (v : Value) (m : List (List Int)) (hl : List Value) : Prop :=
  w.ownsRow A 39 1 v m.length hl ∧ (∀ g, v.ownBlock = some g → g < B) ∧ (∀ j (h : j < m.length), ∃ hv, hl[j]? = some hv ∧ RowI A B w hv m[j]) ∧
    ∀ (i j : Nat) (x y : Value), i ≠ j → hl[i]? = some x → hl[j]? = some y → x.ownBlock = none ∨ x.ownBlock ≠ y.ownBlock
theorem TabH.same {A B : Nat} {w w' : World} {v : Value} {m : List (List Int)} {hl : List Value} (h : TabH A B w v m hl) (hs : SameIn A B w w') : TabH A B w' v m hl :=
  ⟨ownsRow_same h.1 h.2.1 hs, h.2.1, fun j hj => by
    obtain ⟨hv, h1, h2⟩ := h.2.2.1 j hj
    exact ⟨hv, h1, h2.same hs⟩, h.2.2.2⟩
theorem TabH.row {A B : Nat} {w : World} {a : Option Addr} {n cap : Nat} {m : List (List Int)} {hl : List Value} (h : TabH A B w (.slice a n cap) m hl) {j : Nat} (hj : j < m.length) :
    ∃ b hv, a = some ⟨b, 0, none⟩ ∧ hl[j]? = some hv ∧ w.cell? ⟨b, j, none⟩ = some hv ∧ RowI A B w hv (m.getD j []) := by
  obtain ⟨h1, h2, h3, _⟩ := h
  obtain ⟨hv, h4, h5⟩ := h3 j hj
  rcases h1.2 with ⟨_, he⟩ | ⟨g, cap', cur, hval, _⟩
  · omega
  · have ha : a = some ⟨g, 0, none⟩ := by injection hval
    have hn : n = m.length := by injection hval
    subst ha
    subst hn
    exact ⟨g, hv, rfl, h4, by rw [h1.cellAt j (by omega)]; exact h4, by rw [getD_row m j hj]; exact h5⟩
theorem sameIn_grown {A B : Nat} {w w' : World} {S : Option Nat} (hg : w.grownBy w' S) (hB : B ≤ w.heap.size) (hS : ∀ g, S = some g → g < A ∨ B ≤ g) : SameIn A B w w' := fun k h1 h2 =>
  hg.block k (by omega) (fun e => by have := hS k e.symm; omega)
theorem selT_head {a b : List (List Int)} {t : Nat} {q : List Nat} (h : selT a b (t + 1) = [q]) (ht : t + 1 ≤ (ords a.length).length) :
    (tabL (selT a b (ords a.length).length)).getD 0 [] = intL q ∧ (tabL (selT a b (ords a.length).length)).length ≠ 0 := by
  have e : ∃ r, selT a b (ords a.length).length = q :: r := by
    refine ⟨((ords a.length).drop (t + 1)).filter (selP a b), ?_⟩
    have h1 : (ords a.length).take (ords a.length).length = (ords a.length).take (t + 1) ++ (ords a.length).drop (t + 1) := by rw [List.take_length, List.take_append_drop]
    have h2 : selT a b (t + 1) = ((ords a.length).take (t + 1)).filter (selP a b) := rfl
    unfold selT
    rw [h1, List.filter_append, ← h2, h]
    rfl
  obtain ⟨r, hr⟩ := e
  rw [hr]
  exact ⟨rfl, by simp [tabL]⟩

set_option maxHeartbeats 4000000 in
set_option maxRecDepth 100000 in
theorem ais_ok (B B' : Nat) (v v' : Value) (m m' : List (List Int)) (w : World) (h : MatB B w v m) (h' : MatB B' w v' m') (hB : B ≤ w.heap.size) (hB' : B' ≤ w.heap.size) (hf : RowsFit m) (hf' : RowsFit m') (hI : IsC m) (hI' : IsC m') (he : m.length = m'.length) :
    Calls Tryz.prog 34 #[v, v'] w (MakesS2 w (isoL m m') (.bool (isoB m m'))) := by
  obtain ⟨a, cap, rfl⟩ := h.slice
  obtain ⟨a', cap', rfl⟩ := h'.slice
  have hl := hf.1
  have HR := Lib.hid h; clear h
  have HR' := Lib.hid h'; clear h'
  have HF := Lib.hid hf; clear hf
  have HF' := Lib.hid hf'; clear hf'
  have hn4 := hI.2.2.2
  have hn1 := hI.2.2.1
  have HC := Lib.hid (isB_yes hI)
  have HC' := Lib.hid (isB_yes hI')
  have HV := Lib.hid (obV_yes (b := m') hI)
  have HSO := Lib.hid (step_ok m.length hn1 hn4)
  have hN24 := ords_len hn4
  have HSY := Lib.hid (fun t (ht : t < (ords m.length).length) => selT_yes (a := m) (b := m') ht)
  have HSN := Lib.hid (fun t (ht : t < (ords m.length).length) => selT_no (a := m) (b := m') ht)
  have HS0 := Lib.hid (show selT m m' 0 = [] by unfold selT; rw [List.take_zero]; rfl)
  have HHD := Lib.hid (fun t q (h : selT m m' (t + 1) = [q]) ht => selT_head h ht)
  have HEQ := Lib.hid (eqM_get m m')
  have HPS := Lib.hid (fun (q : List Nat) (hq : q.length ≤ 4) => small_of (fullF_small (ptsF m (intL q)) (intL q).length (by rw [intL_len]; omega)))
  have HPK := Lib.hid (fun (q : List Nat) => show pick m (intL q) = fullF (ptsF m (intL q)) (intL q).length from rfl)
  have HRO := Lib.hid (fun (q : List Nat) (hq : IsOrd m.length (intL q)) => show relM m (intL q) = pick m (intL q) ∧ relB m (intL q) = true from ⟨relM_yes ⟨hI, hq⟩, relB_yes ⟨hI, hq⟩⟩)
  have HL := Lib.hid (show isoL m m' = (obV m m').getD 0 [] from rfl)
  have HBB := Lib.hid (show isoB m m' = decide ((obV m m').length ≠ 0) from rfl)
  clear hI hI'
  generalize isoL m m' = rl at *
  generalize isoB m m' = rb at *
  generalize obV m m' = R at *
  generalize hT : ords m.length = T at *
  have HT := Lib.hid hT; clear hT
  generalize hTL : T.length = N at *
  have HTL := Lib.hid hTL; clear hTL
  generalize hn : m.length = n at *
  have HN := Lib.hid hn; clear hn
  generalize hn' : m'.length = n' at *
  have HN' := Lib.hid hn'; clear hn'
  subst he
  have hb : ((n : Int) != (n : Int)) = false := by rw [bne_eq_false_iff_eq]
  unfold maxLen at hl
  have HLO := Lib.hid (fun w1 => l3o_any n w1 hn4)
  go_enter Tryz.func34, Tryz.ntmps34
  go_wp2_with fail
  refine (isc_w B _ m true HC.out _ HR.out HF.out).mono ?_
  rintro e w1 ⟨rfl, hb1⟩
  have HB1 := Lib.hid hb1
  have hs1 := hb1.size
  clear hb1
  go_wp2_with fail
  refine (isc_w B' _ m' true HC'.out _ (HR'.out.below HB1.out hB') HF'.out).mono ?_
  rintro e w2 ⟨rfl, hb2⟩
  have HB2 := Lib.hid (HB1.out.trans (hb2.mono hs1))
  clear hb2
  go_wp2_with fail
  refine (HLO.out w2).mono ?_
  rintro e w3 ⟨x, rfl, hx, hb3⟩
  have HB3 := Lib.hid (HB2.out.trans (hb3.mono HB2.out.size))
  have hs2 := HB2.out.size
  have hs3 := hb3.size
  obtain ⟨la, lcap, rfl⟩ := hx.1.slice
  rw [tabL_len] at hx ⊢
  rw [HT.out] at hx ⊢
  rw [HTL.out] at hx ⊢
  have HX := Lib.hid hx.1
  clear hx hb3 hb
  have hso := HSO.out
  unfold StepOk at hso
  rw [HT.out] at hso
  obtain ⟨_, hpos, hstep, htab⟩ := hso
  rw [HTL.out] at hpos hstep
  have HSTP := Lib.hid hstep; have HTAB := Lib.hid htab
  clear hstep htab HSO
  have HGT := Lib.hid (tabL_get T)
  go_wp2_with fail
  go_loopw [7] (fun i wr => ∃ (t : Nat) (wq : World), wq = wr ∧ t ≤ N ∧ i = .int .i64 t ∧ Hid (selT m m' t = []) ∧ Below w3.heap.size w3 wq) (fun i _ => N - (intOf i).toNat)
  case atStart => exact ⟨0, _, rfl, Nat.zero_le _, rfl, HS0, Below.refl _ _⟩
  case round =>
    obtain ⟨t, wq, rfl, ht, rfl, hse, hbq⟩ := hrel
    have HBQ := Lib.hid hbq
    have hsq := hbq.size
    clear hbq
    by_cases hlt : t < N
    · have hlt' : decide (t < N) = true := decide_eq_true hlt
      obtain ⟨hq1, _⟩ := HSTP.out t hlt
      have hqm := List.mem_of_getElem? hq1
      obtain ⟨hql, hqp⟩ := HTAB.out _ hqm
      have HSY' := Lib.hid (HSY.out t hlt)
      have HSN' := Lib.hid (HSN.out t hlt)
      have HHD' := Lib.hid (HHD.out t (T.getD t []))
      obtain ⟨hr1, hr2⟩ := HRO.out (T.getD t []) (tab_ord hql hqp)
      have HR1 := Lib.hid hr1; have HR2 := Lib.hid hr2
      have HEQ' := Lib.hid (HEQ.out (T.getD t []))
      have HPS' := Lib.hid (HPS.out (T.getD t []) (by omega))
      have HPK' := Lib.hid (HPK.out (T.getD t []))
      have HQL := Lib.hid hql
      have htl : t < T.length := by rw [HTL.out]; exact hlt
      have HGE := Lib.hid (HGT.out t htl)
      clear hq1 hqm hql hqp hr1 hr2
      have hmi : MatI w2.heap.size w3.heap.size wq (.slice la N lcap) (tabL T) := HX.out.same (SameIn.of_below HBQ.out (Nat.le_refl _))
      obtain ⟨lb, hv, rfl, hcell, hrow⟩ := hmi.rowI (j := t) (by rw [tabL_len]; exact htl)
      rw [HGE.out] at hrow
      clear hmi
      obtain ⟨ra, rcap, rfl⟩ := hrow.slice
      rw [intL_len, HQL.out] at hrow hcell
      have HROW := Lib.hid hrow; clear hrow
      have hBw : B ≤ wq.heap.size := by omega
      have HBw := Lib.hid (HB3.out.trans (HBQ.out.mono (by omega)))
      have HCELL := Lib.hid hcell
      generalize T.getD t [] = q at *
      have hiq : (intL q).length = n := by rw [intL_len]; exact HQL.out
      have HIQ := Lib.hid hiq; clear hiq
      go_wp2_with fail
      refine (rels_any B w3.heap.size _ _ m (intL q) wq (HR.out.below HBw.out hB) HROW.out.rowB hBw hsq HF.out (by rw [HIQ.out]; unfold maxLen; omega) HROW.out.capOk).mono ?_
      rintro e w4 ⟨y, rfl, hy, hb4⟩
      rw [HR1.out] at hy
      rw [HR2.out]
      have HY := Lib.hid hy
      have HB4 := Lib.hid (HBQ.out.trans (hb4.mono hsq))
      have hs4 := hb4.size
      have hbw4 := HBw.out.trans (hb4.mono (by omega))
      have HBw4 := Lib.hid hbw4
      clear hy hb4 hcell hbw4
      go_wp2_with fail
      refine (eqcs_b _ B' y _ (pick m (intL q)) m' w4 HY.out.matB (HR'.out.below HBw4.out hB') (by rw [HPK'.out]; exact fit_of_small HPS'.out) HF'.out).mono ?_
      rintro e w5 ⟨rfl, hb5⟩
      rw [HEQ'.out]
      have HB5 := Lib.hid (HB4.out.trans (hb5.mono (by omega)))
      have HBw5 := Lib.hid (HBw4.out.trans (hb5.mono (by omega)))
      have hs5 := hb5.size
      clear hb5
      by_cases hsel : selP m m' q = true
      · rw [hsel]
        obtain ⟨h1, h2⟩ := HHD'.out (by rw [← HSY'.out hsel, hse.out]; rfl) hlt
        rw [← HV.out] at h1 h2
        have HQ1 := Lib.hid (HL.out.trans h1)
        have HQ2 := Lib.hid (HBB.out.trans (decide_eq_true h2))
        clear h1 h2 hsel
        have hlb : lb < w3.heap.size := by
          have := World.block_lt_of_cell? wq _ HCELL.out
          obtain ⟨hs9, g1, g2, _⟩ := HX.out
          exact g2 lb rfl
        have hcell5 : w5.cell? ⟨lb, t, none⟩ = some (.slice ra n rcap) := by
          have h6 := HB5.out.cell (p := ⟨lb, t, none⟩) hlb
          have h7 := HBQ.out.cell (p := ⟨lb, t, none⟩) hlb
          rw [h6, ← h7]; exact HCELL.out
        have HROW5 := Lib.hid (HROW.out.same (fun k _ hk => (HB5.out.block k hk).trans (HBQ.out.block k hk).symm))
        go_wp2_with fail
        go_ret2
        exact ⟨_, by rw [HQ2.out]; rfl, by rw [HQ1.out]; exact ⟨HROW5.out.mono hs2 (by omega), Nat.le_refl _⟩, HBw5.out⟩
      · have hsel' : selP m m' q = false := by simpa using hsel
        rw [hsel']
        have HST := Lib.hid (show selT m m' (t + 1) = [] by rw [← HSN'.out hsel']; exact hse.out)
        clear hsel hsel'
        go_wp2_with fail
        exact ⟨⟨t + 1, _, rfl, by omega, by go_num, HST, HB5.out⟩, by simp [intOf]; omega⟩
    · obtain rfl : N = t := by omega
      have hlt' : decide (N < N) = false := by simp
      have HQ1 := Lib.hid (show rl = [] by rw [HL.out, HV.out, hse.out]; rfl)
      have HQ2 := Lib.hid (show rb = false by rw [HBB.out, HV.out, hse.out]; rfl)
      have HBw := Lib.hid (HB3.out.trans (HBQ.out.mono (by omega)))
      go_wp2_with fail
      go_ret2
      exact ⟨_, by rw [HQ2.out]; rfl, by rw [HQ1.out]; exact ⟨(row_empty wq).mono HBw.out.size (Nat.le_refl _), Nat.le_refl _⟩, HBw.out.alloc HBw.out.size _⟩

set_option maxHeartbeats 2000000 in
set_option maxRecDepth 100000 in
theorem ais_no (B B' : Nat) (v v' : Value) (m m' : List (List Int)) (w : World) (h : MatB B w v m) (h' : MatB B' w v' m') (hB : B ≤ w.heap.size) (hB' : B' ≤ w.heap.size) (hf : RowsFit m) (hf' : RowsFit m') (hno : ¬ (IsC m ∧ IsC m' ∧ m.length = m'.length)) :
    Calls Tryz.prog 34 #[v, v'] w (MakesS2 w (isoL m m') (.bool (isoB m m'))) := by
  obtain ⟨a, cap, rfl⟩ := h.slice
  obtain ⟨a', cap', rfl⟩ := h'.slice
  have hl := hf.1
  have hl' := hf'.1
  have HR := Lib.hid h; clear h
  have HR' := Lib.hid h'; clear h'
  have HF := Lib.hid hf; clear hf
  have HF' := Lib.hid hf'; clear hf'
  have hbad := obV_bad hno
  have HQ1 := Lib.hid (show isoL m m' = [] by unfold isoL; rw [hbad]; rfl)
  have HQ2 := Lib.hid (show isoB m m' = false by unfold isoB; rw [hbad]; rfl)
  clear hbad
  generalize isoL m m' = rl at *
  generalize isoB m m' = rb at *
  unfold maxLen at hl hl'
  by_cases hI : IsC m
  · have HC := Lib.hid (isB_yes hI)
    by_cases hI' : IsC m'
    · have HC' := Lib.hid (isB_yes hI')
      have hne : ¬ m.length = m'.length := fun e => hno ⟨hI, hI', e⟩
      clear hno hI hI'
      generalize m.length = n at *
      generalize m'.length = n' at *
      have hb : ((n : Int) != (n' : Int)) = true := by rw [bne_iff_ne]; omega
      have HNE := Lib.hid hne; clear hne
      go_enter Tryz.func34, Tryz.ntmps34
      go_wp2_with fail
      refine (isc_w B _ m true HC.out _ HR.out HF.out).mono ?_
      rintro e w1 ⟨rfl, hb1⟩
      have HB1 := Lib.hid hb1; clear hb1
      go_wp2_with fail
      refine (isc_w B' _ m' true HC'.out _ (HR'.out.below HB1.out hB') HF'.out).mono ?_
      rintro e w2 ⟨rfl, hb2⟩
      have HB2 := Lib.hid (HB1.out.trans (hb2.mono HB1.out.size)); clear hb2
      go_wp2_with fail
      go_ret2
      exact ⟨_, by rw [HQ2.out]; rfl, by rw [HQ1.out]; exact ⟨(row_empty w2).mono HB2.out.size (Nat.le_refl _), Nat.le_refl _⟩, HB2.out.alloc HB2.out.size _⟩
    · have HC' := Lib.hid (isB_no hI')
      clear hno hI hI'
      generalize m.length = n at *
      generalize m'.length = n' at *
      go_enter Tryz.func34, Tryz.ntmps34
      go_wp2_with fail
      refine (isc_w B _ m true HC.out _ HR.out HF.out).mono ?_
      rintro e w1 ⟨rfl, hb1⟩
      have HB1 := Lib.hid hb1; clear hb1
      go_wp2_with fail
      refine (isc_w B' _ m' false HC'.out _ (HR'.out.below HB1.out hB') HF'.out).mono ?_
      rintro e w2 ⟨rfl, hb2⟩
      have HB2 := Lib.hid (HB1.out.trans (hb2.mono HB1.out.size)); clear hb2
      go_wp2_with fail
      go_ret2
      exact ⟨_, by rw [HQ2.out]; rfl, by rw [HQ1.out]; exact ⟨(row_empty w2).mono HB2.out.size (Nat.le_refl _), Nat.le_refl _⟩, HB2.out.alloc HB2.out.size _⟩
  · have HC := Lib.hid (isB_no hI)
    clear hno hI
    generalize m.length = n at *
    generalize m'.length = n' at *
    go_enter Tryz.func34, Tryz.ntmps34
    go_wp2_with fail
    refine (isc_w B _ m false HC.out _ HR.out HF.out).mono ?_
    rintro e w1 ⟨rfl, hb1⟩
    have HB1 := Lib.hid hb1; clear hb1
    go_wp2_with fail
    go_ret2
    exact ⟨_, by rw [HQ2.out]; rfl, by rw [HQ1.out]; exact ⟨(row_empty w1).mono HB1.out.size (Nat.le_refl _), Nat.le_refl _⟩, HB1.out.alloc HB1.out.size _⟩
theorem ais_any (B B' : Nat) (v v' : Value) (m m' : List (List Int)) (w : World) (h : MatB B w v m) (h' : MatB B' w v' m') (hB : B ≤ w.heap.size) (hB' : B' ≤ w.heap.size) (hf : RowsFit m) (hf' : RowsFit m') :
    Calls Tryz.prog 34 #[v, v'] w (MakesS2 w (isoL m m') (.bool (isoB m m'))) := by
  by_cases hok : IsC m ∧ IsC m' ∧ m.length = m'.length
  · exact ais_ok B B' v v' m m' w h h' hB hB' hf hf' hok.1 hok.2.1 hok.2.2
  · exact ais_no B B' v v' m m' w h h' hB hB' hf hf' hok

/-! ### SymmetriesOf of the model -/
set_option maxHeartbeats 4000000 in
set_option maxRecDepth 100000 in
theorem sys_any (B : Nat) (v : Value) (m : List (List Int)) (w : World) (h : MatB B w v m) (hB : B ≤ w.heap.size) (hf : RowsFit m) :
    Calls Tryz.prog 42 #[v] w (MakesM w (obV m m)) := by
  obtain ⟨a, cap, rfl⟩ := h.slice
  have hl := hf.1
  have hb0 : Below w.heap.size w (w.alloc (.cells #[] 39)) := (Below.refl _ _).alloc (Nat.le_refl _) _
  have HB0 := Lib.hid hb0; clear hb0
  have HR := Lib.hid h; clear h
  have HF := Lib.hid hf; clear hf
  by_cases hI : IsC m
  · have hn4 := hI.2.2.2
    have hn1 := hI.2.2.1
    have HC := Lib.hid (isB_yes hI)
    have HV := Lib.hid (obV_yes (b := m) hI)
    have HSO := Lib.hid (step_ok m.length hn1 hn4)
    have hN24 := ords_len hn4
    have HSY := Lib.hid (fun t (ht : t < (ords m.length).length) => selT_yes (a := m) (b := m) ht)
    have HSN := Lib.hid (fun t (ht : t < (ords m.length).length) => selT_no (a := m) (b := m) ht)
    have HSL := Lib.hid (selT_len m m)
    have HS0 := Lib.hid (show selT m m 0 = [] by unfold selT; rw [List.take_zero]; rfl)
    have HEQ := Lib.hid (eqM_get m m)
    have HPS := Lib.hid (fun (q : List Nat) (hq : q.length ≤ 4) => small_of (fullF_small (ptsF m (intL q)) (intL q).length (by rw [intL_len]; omega)))
    have HPK := Lib.hid (fun (q : List Nat) => show pick m (intL q) = fullF (ptsF m (intL q)) (intL q).length from rfl)
    have HRO := Lib.hid (fun (q : List Nat) (hq : IsOrd m.length (intL q)) => show relM m (intL q) = pick m (intL q) ∧ relB m (intL q) = true from ⟨relM_yes ⟨hI, hq⟩, relB_yes ⟨hI, hq⟩⟩)
    clear hI
    generalize obV m m = R at *
    generalize hT : ords m.length = T at *
    have HT := Lib.hid hT; clear hT
    generalize hTL : T.length = N at *
    have HTL := Lib.hid hTL; clear hTL
    generalize hn : m.length = n at *
    have HN := Lib.hid hn; clear hn
    unfold maxLen at hl
    have HLO := Lib.hid (fun w1 => l3o_any n w1 hn4)
    go_enter Tryz.func42, Tryz.ntmps42
    go_wp2_with fail
    refine (isc_w B _ m true HC.out _ (HR.out.below HB0.out hB) HF.out).mono ?_
    rintro e w2 ⟨rfl, hb2⟩
    have HB2 := Lib.hid (HB0.out.trans (hb2.mono HB0.out.size))
    have HO2 := Lib.hid ((MatH.empty w).step hb2)
    have hs0 : (w.alloc (.cells #[] 39)).heap.size = w.heap.size + 1 := by simp
    have hs2 : w.heap.size < w2.heap.size := by have := hb2.size; omega
    clear hb2 hs0
    go_wp2_with fail
    refine (HLO.out w2).mono ?_
    rintro e w3 ⟨x, rfl, hx, hb3⟩
    have HB3 := Lib.hid (HB2.out.trans (hb3.mono HB2.out.size))
    have HO3 := Lib.hid (HO2.out.step hb3)
    have hs3 := hb3.size
    obtain ⟨la, lcap, rfl⟩ := hx.1.slice
    rw [tabL_len] at hx ⊢
    rw [HT.out] at hx ⊢
    rw [HTL.out] at hx ⊢
    obtain ⟨hl9, hx9⟩ := hx.1
    have hx8 : TabH w2.heap.size w3.heap.size w3 (.slice la N lcap) (tabL T) hl9 := hx9
    have HX := Lib.hid hx8
    clear hx hb3 hx8 hx9
    have hso := HSO.out
    unfold StepOk at hso
    rw [HT.out] at hso
    obtain ⟨_, hpos, hstep, htab⟩ := hso
    rw [HTL.out] at hpos hstep
    have HSTP := Lib.hid hstep; have HTAB := Lib.hid htab
    clear hstep htab HSO
    have HGT := Lib.hid (tabL_get T)
    go_wp2_with fail
    go_loopw [3, 5] (fun o i wr => ∃ (t : Nat) (hs : List Value) (wq : World), wq = wr ∧ t ≤ N ∧ i = .int .i64 t ∧ MatH w.heap.size wq o (tabL (selT m m t)) hs ∧ (∀ y ∈ hs, ∃ j, j < t ∧ hl9[j]? = some y) ∧ (∀ g, o.ownBlock = some g → g < w2.heap.size ∨ w3.heap.size ≤ g) ∧
      TabH w2.heap.size w3.heap.size wq (.slice la N lcap) (tabL T) hl9 ∧ Below w.heap.size w wq ∧ w3.heap.size ≤ wq.heap.size) (fun _ i _ => N - (intOf i).toNat)
    case atStart =>
      refine ⟨0, [], _, rfl, Nat.zero_le _, rfl, by rw [HS0.out]; exact HO3.out, fun y hy => by simp at hy, fun g hg => ?_, HX.out, HB3.out, Nat.le_refl _⟩
      have : w.heap.size = g := by simpa [Value.ownBlock] using hg
      omega
    case round =>
      obtain ⟨t, hs, wq, rfl, ht, rfl, hM, hhs, hlo, hX, hb, hsq⟩ := hrel
      have HM := Lib.hid hM; have HHS := Lib.hid hhs; have HLOC := Lib.hid hlo; have HXQ := Lib.hid hX; have HB := Lib.hid hb
      have hsw := hb.size
      clear hM hhs hlo hX hb
      by_cases hlt : t < N
      · have hlt' : decide (t < N) = true := decide_eq_true hlt
        obtain ⟨hq1, _⟩ := HSTP.out t hlt
        have hqm := List.mem_of_getElem? hq1
        obtain ⟨hql, hqp⟩ := HTAB.out _ hqm
        have HSY' := Lib.hid (HSY.out t hlt)
        have HSN' := Lib.hid (HSN.out t hlt)
        obtain ⟨hr1, hr2⟩ := HRO.out (T.getD t []) (tab_ord hql hqp)
        have HR1 := Lib.hid hr1; have HR2 := Lib.hid hr2
        have HEQ' := Lib.hid (HEQ.out (T.getD t []))
        have HPS' := Lib.hid (HPS.out (T.getD t []) (by omega))
        have HPK' := Lib.hid (HPK.out (T.getD t []))
        have HQL := Lib.hid hql
        have htl : t < T.length := by rw [HTL.out]; exact hlt
        have HGE := Lib.hid (HGT.out t htl)
        have hsl := HSL.out t
        clear hq1 hqm hql hqp hr1 hr2
        obtain ⟨lb, hv, rfl, hlv, hcell, hrow⟩ := HXQ.out.row (j := t) (by rw [tabL_len]; exact htl)
        rw [HGE.out] at hrow
        obtain ⟨ra, rcap, rfl⟩ := hrow.slice
        rw [intL_len, HQL.out] at hrow hcell hlv
        have HROW := Lib.hid hrow; clear hrow
        have HLV := Lib.hid hlv; clear hlv
        have HCELL := Lib.hid hcell
        have hlb : lb < w3.heap.size := HXQ.out.2.1 lb rfl
        generalize T.getD t [] = q at *
        have hiq : (intL q).length = n := by rw [intL_len]; exact HQL.out
        have HIQ := Lib.hid hiq; clear hiq
        go_wp2_with fail
        refine (rels_any B w3.heap.size _ _ m (intL q) wq (HR.out.below HB.out hB) HROW.out.rowB (Nat.le_trans hB hsw) hsq HF.out (by rw [HIQ.out]; unfold maxLen; omega) HROW.out.capOk).mono ?_
        rintro e w4 ⟨y, rfl, hy, hb4⟩
        rw [HR1.out] at hy
        rw [HR2.out]
        have HY := Lib.hid hy
        have HB4 := Lib.hid (HB.out.trans (hb4.mono hsw))
        have HM4 := Lib.hid (HM.out.step hb4)
        have HX4 := Lib.hid (HXQ.out.same (SameIn.of_below hb4 hsq))
        have hcell4 := (hb4.cell (p := ⟨lb, t, none⟩) (by show lb < _; omega)).trans HCELL.out
        have HCELL4 := Lib.hid hcell4
        have hs4 := hb4.size
        clear hy hb4 hcell hcell4
        go_wp2_with fail
        refine (eqcs_b _ B y _ (pick m (intL q)) m w4 HY.out.matB (HR.out.below HB4.out hB) (by rw [HPK'.out]; exact fit_of_small HPS'.out) HF.out).mono ?_
        rintro e w5 ⟨rfl, hb5⟩
        rw [HEQ'.out]
        have HB5 := Lib.hid (HB4.out.trans (hb5.mono (by omega)))
        have HM5 := Lib.hid (HM4.out.step hb5)
        have hx5 : TabH w2.heap.size w3.heap.size w5 (.slice (some ⟨lb, 0, none⟩) N lcap) (tabL T) hl9 := HX4.out.same (SameIn.of_below hb5 (by omega))
        have HX5 := Lib.hid hx5
        have hcell5 := (hb5.cell (p := ⟨lb, t, none⟩) (by show lb < _; omega)).trans HCELL4.out
        have hs5 := hb5.size
        clear hb5 hx5
        by_cases hsel : selP m m q = true
        · rw [hsel]
          have HST := Lib.hid (HSY'.out hsel)
          clear hsel
          obtain ⟨b5, hv5, hbe, hlv5, hc5, hrow5⟩ := HX5.out.row (j := t) (by rw [tabL_len]; exact htl)
          clear hbe hc5
          rw [HLV.out] at hlv5
          have hve := Option.some.inj hlv5
          subst hve
          rw [HGE.out] at hrow5
          have HROW5 := Lib.hid (hrow5.mono (Nat.le_of_lt hs2) (show w3.heap.size ≤ w5.heap.size by omega))
          clear hlv5 hrow5
          have hdis : ∀ y ∈ hs, y.ownBlock = none ∨ y.ownBlock ≠ (Value.slice ra n rcap).ownBlock := fun y hy => by
            obtain ⟨j, hj, hjy⟩ := HHS.out y hy
            exact HX5.out.2.2.2 j t y _ (by omega) hjy HLV.out
          have HDIS := Lib.hid hdis; clear hdis
          have hml : (tabL (selT m m t)).length ≤ 1048576 := by rw [tabL_len]; omega
          have HML := Lib.hid hml; clear hml
          have hsw5 : w.heap.size ≤ w5.heap.size := by omega
          go_wp2_with (at_builtin; go_must (refine append_rowH HM5.out HROW5.out hsw5 HDIS.out rfl rfl rfl rfl HML.out ?_; intro v6 w6 hm6 hg6 hl6))
          have hm6' : MatH w.heap.size w6 v6 (tabL (selT m m (t + 1))) (hs ++ [Value.slice ra n rcap]) := by
            rw [← HST.out, ← tabL_snoc]; exact hm6
          have HM6 := Lib.hid hm6'
          have HX6 := Lib.hid (HX5.out.same (sameIn_grown hg6 (by omega) HLOC.out))
          have HB6 := Lib.hid (HB5.out.grown hg6 hsw5 (fun k hk => (HM5.out.1.lt k hk).1))
          have hlo6 : ∀ g, v6.ownBlock = some g → g < w2.heap.size ∨ w3.heap.size ≤ g := fun g hg => by
            rcases hl6 g hg with h1 | h1
            · exact HLOC.out g h1
            · right; omega
          have HLO6 := Lib.hid hlo6
          have hhs6 : ∀ y ∈ hs ++ [Value.slice ra n rcap], ∃ j, j < t + 1 ∧ hl9[j]? = some y := fun y hy => by
            rcases List.mem_append.1 hy with h1 | h1
            · obtain ⟨j, hj, hjy⟩ := HHS.out y h1
              exact ⟨j, by omega, hjy⟩
            · have e := List.mem_singleton.1 h1
              subst e
              exact ⟨t, by omega, HLV.out⟩
          have HHS6 := Lib.hid hhs6
          have hs6 := hg6.size
          clear hm6 hm6' hlo6 hl6 hhs6 hg6
          go_wp2_with fail
          exact ⟨⟨t + 1, _, _, rfl, by omega, by go_num, HM6.out, HHS6.out, HLO6.out, HX6.out, HB6.out, by omega⟩, by simp [intOf]; omega⟩
        · have hsel' : selP m m q = false := by simpa using hsel
          rw [hsel']
          have hm6 : MatH w.heap.size w5 u3 (tabL (selT m m (t + 1))) hs := by rw [← HSN'.out hsel']; exact HM5.out
          have HM6 := Lib.hid hm6
          clear hsel hsel' hm6
          have hhs6 : ∀ y ∈ hs, ∃ j, j < t + 1 ∧ hl9[j]? = some y := fun y hy => by
            obtain ⟨j, hj, hjy⟩ := HHS.out y hy
            exact ⟨j, by omega, hjy⟩
          have HHS6 := Lib.hid hhs6; clear hhs6
          go_wp2_with fail
          exact ⟨⟨t + 1, _, _, rfl, by omega, by go_num, HM6.out, HHS6.out, HLOC.out, HX5.out, HB5.out, by omega⟩, by simp [intOf]; omega⟩
      · obtain rfl : N = t := by omega
        have hlt' : decide (N < N) = false := by simp
        go_wp2_with fail
        go_ret
        exact ⟨_, rfl, by rw [HV.out]; exact ⟨HM.out.matI, Nat.le_refl _⟩, HB.out⟩
  · have HC := Lib.hid (isB_no hI)
    have HV := Lib.hid (obV_no (b := m) hI)
    clear hI
    generalize obV m m = R at *
    generalize hn : m.length = n at *
    have HN := Lib.hid hn; clear hn
    unfold maxLen at hl
    go_enter Tryz.func42, Tryz.ntmps42
    go_wp2_with fail
    refine (isc_w B _ m false HC.out _ (HR.out.below HB0.out hB) HF.out).mono ?_
    rintro e w2 ⟨rfl, hb2⟩
    have HB2 := Lib.hid hb2; clear hb2
    go_wp2_with fail
    go_ret
    exact makesM_nil HV.out ((mat_empty w).step HB2.out) (HB0.out.trans (HB2.out.mono HB0.out.size))
end Go.Proofs.YtppimgkampkfjaaGreatDoor
namespace Go.Proofs.YtppimgkampkfjaaGreatDoor
open Go.RowKit

def namesL : List (List UInt8) := [[65, 49], [65, 50], [65, 51], [65, 52], [66, 50], [66, 51], [66, 52], [67, 51], [67, 52], [68, 52], [70, 52], [71, 50], [65, 49, 126], [65, 50, 126], [65, 51, 126], [67, 50, 126], [71, 50, 126]]
def strV (l : List UInt8) : Value := .string ⟨l.toArray⟩
def namesV : Array Value := (namesL.map strV).toArray
theorem namesV_get : ∀ t, t < 17 → namesV[t]? = some (strV (namesL.getD t [])) := by
  intro t ht
  simp [namesV, List.getD, show t < namesL.length from ht]
theorem typeP_small (l : List UInt8) : szSum (typeM l) ≤ 1048576 := by
  by_cases h : Fresh shTab l
  · unfold typeM; rw [typeAt_fresh h]; decide
  · have : ∃ p ∈ shTab, p.1 = l := Classical.byContradiction fun hn => h fun p hp e => hn ⟨p, hp, e⟩
    obtain ⟨p, hp, rfl⟩ := this
    obtain ⟨i, hi, rfl⟩ := List.getElem_of_mem hp
    unfold typeM
    rw [(sh_facts i hi).2.2.2.2]
    exact (show ∀ i (h : i < shTab.length), szSum (appC (chainL shTab[i].2.1) shTab[i].2.2) ≤ 1048576 by decide) i hi
theorem nms_any (w : World) : Calls Tryz.prog 116 #[] w fun e w' => e = .returned (.slice (some ⟨w.heap.size, 0, none⟩) 17 17) ∧ w' = w.alloc (.cells namesV 9) := by
  go_enter Tryz.func116, Tryz.ntmps116
  go_wp2_with fail
  go_ret
  exact ⟨rfl, rfl⟩
noncomputable def nameT (m : List (List Int)) (k : Nat) : Option Nat := (List.range k).find? fun t => isoB m (typeM (namesL.getD t []))
theorem nameT_no {m : List (List Int)} {k : Nat} (h : nameT m k = none) (hk : isoB m (typeM (namesL.getD k [])) = false) : nameT m (k + 1) = none := by
  unfold nameT at h ⊢
  rw [List.range_succ, List.find?_append, h]
  simp [hk, ← List.getD_eq_getElem?_getD]
theorem nameT_hit {m : List (List Int)} {k : Nat} (h : nameT m k = none) (hk : isoB m (typeM (namesL.getD k [])) = true) (N : Nat) (hN : k < N) : nameT m N = some k := by
  have h1 : nameT m (k + 1) = some k := by
    unfold nameT at h ⊢
    rw [List.range_succ, List.find?_append, h]
    simp [hk, ← List.getD_eq_getElem?_getD]
  have e : List.range N = List.range (k + 1) ++ (List.range N).drop (k + 1) := by
    have h2 : (List.range N).take (k + 1) = List.range (k + 1) := by rw [List.take_range]; congr 1; omega
    rw [← h2, List.take_append_drop]
  unfold nameT at h1 ⊢
  rw [e, List.find?_append, h1]; rfl
noncomputable def nameP (m : List (List Int)) : List UInt8 := match nameT m 17 with
  | some t => namesL.getD t []
  | none => if connB (partsV m).length then [63] else []
theorem nameP_hit {m : List (List Int)} {t : Nat} (h : nameT m 17 = some t) : nameP m = namesL.getD t [] := by unfold nameP; rw [h]
theorem nameP_no {m : List (List Int)} (h : nameT m 17 = none) : nameP m = if connB (partsV m).length then [63] else [] := by unfold nameP; rw [h]

set_option maxHeartbeats 2000000 in
set_option maxRecDepth 100000 in
theorem nmp_any (B : Nat) (v : Value) (m : List (List Int)) (w : World) (h : MatB B w v m) (hB : B ≤ w.heap.size) (hf : RowsFit m) :
    Calls Tryz.prog 70 #[v] w fun e w' => e = .returned (strV (nameP m)) ∧ Below w.heap.size w w' := by
  have hb0 : Below w.heap.size w (w.alloc (.cells namesV 9)) := (Below.refl _ _).alloc (Nat.le_refl _) _
  have HB0 := Lib.hid hb0
  have hcell : ∀ t, t < 17 → (w.alloc (.cells namesV 9)).cell? ⟨w.heap.size, t, none⟩ = some (strV (namesL.getD t [])) := fun t ht => by
    rw [cell_of_row _ w.heap.size t _ _ _ (MapKept.heap_alloc w _).1]; exact namesV_get t ht
  have hsz0 : w.heap.size < (w.alloc (.cells namesV 9)).heap.size := by simp
  have HCELL := Lib.hid hcell
  have HCO := Lib.hid (fun w1 (hb : Below w.heap.size w w1) => cons_any B v m w1 (h.below hb hB) (Nat.le_trans hB hb.size) hf)
  have HAI := Lib.hid (fun (B' : Nat) (v' : Value) (m' : List (List Int)) (w1 : World) (hb : Below w.heap.size w w1) (h' : MatB B' w1 v' m') (hB' : B' ≤ w1.heap.size) (hf' : RowsFit m') => ais_any B B' v v' m m' w1 (h.below hb hB) h' (Nat.le_trans hB hb.size) hB' hf hf')
  have HHIT := Lib.hid (fun t (h : nameT m 17 = some t) => nameP_hit h)
  have HNO := Lib.hid (fun (h : nameT m 17 = none) => nameP_no h)
  clear h hcell hb0
  generalize nameP m = R at *
  generalize hw1 : w.alloc (.cells namesV 9) = w1 at *
  have HW1 := Lib.hid hw1
  have HNM := Lib.hid (nms_any w)
  clear hw1
  go_enter Tryz.func70, Tryz.ntmps70
  go_wp2_with fail
  refine HNM.out.mono ?_
  rintro e w' ⟨rfl, hw'⟩
  rw [HW1.out] at hw'
  subst hw'
  go_wp2_with fail
  go_loopw [4] (fun i wr => ∃ (t : Nat) (wq : World), wq = wr ∧ t ≤ 17 ∧ i = .int .i64 t ∧ Hid (nameT m t = none) ∧ Below w'.heap.size w' wq) (fun i _ => 17 - (intOf i).toNat)
  case atStart => exact ⟨0, _, rfl, Nat.zero_le _, rfl, Lib.hid rfl, Below.refl _ _⟩
  case round =>
    obtain ⟨t, wq, rfl, ht, rfl, hse, hbq⟩ := hrel
    have HBQ := Lib.hid hbq
    have hsq := hbq.size
    clear hbq
    have HBw := Lib.hid (HB0.out.trans (HBQ.out.mono (by omega)))
    by_cases hlt : t < 17
    · have hlt' : decide (t < 17) = true := decide_eq_true hlt
      have hc := (HBQ.out.cell (p := ⟨w.heap.size, t, none⟩) hsz0).trans (HCELL.out t hlt)
      have HTY := Lib.hid (fun w2 => tys_any ⟨(namesL.getD t []).toArray⟩ w2)
      have HSM := Lib.hid (fit_of_small (small_of (typeP_small (namesL.getD t []))))
      have HYES := Lib.hid (fun (h : isoB m (typeM (namesL.getD t [])) = true) => HHIT.out t (nameT_hit hse.out h 17 hlt))
      have HNOT := Lib.hid (fun (h : isoB m (typeM (namesL.getD t [])) = false) => nameT_no hse.out h)
      have HC1 := Lib.hid (HCELL.out t hlt)
      simp only [List.toList_toArray] at HTY
      unfold strV at hc
      generalize namesL.getD t [] = nm at *
      go_wp2_with fail
      refine (HTY.out wq).mono ?_
      rintro e w4 ⟨y, rfl, hy, hb4⟩
      have HY := Lib.hid hy
      have HB4 := Lib.hid (HBQ.out.trans (hb4.mono hsq))
      have HBw4 := Lib.hid (HBw.out.trans (hb4.mono (by omega)))
      have hs4 := hb4.size
      clear hy hb4
      generalize typeB nm = tb at *
      go_wp2_with fail
      refine (HAI.out _ y (typeM nm) w4 HBw4.out HY.out.matB (Nat.le_refl _) HSM.out).mono ?_
      rintro e w5 ⟨z, rfl, hz, hb5⟩
      have HB5 := Lib.hid (HB4.out.trans (hb5.mono (by omega)))
      have HBw5 := Lib.hid (HBw4.out.trans (hb5.mono (by omega)))
      clear hz hb5
      by_cases hiso : isoB m (typeM nm) = true
      · have HQ := Lib.hid (HYES.out hiso)
        rw [hiso]
        clear hiso
        have hc5 := (HB5.out.cell (p := ⟨w.heap.size, t, none⟩) hsz0).trans HC1.out
        unfold strV at hc5
        go_wp2_with fail
        go_ret
        exact ⟨by rw [HQ.out]; rfl, HBw5.out⟩
      · have hiso' : isoB m (typeM nm) = false := by simpa using hiso
        have HST := Lib.hid (HNOT.out hiso')
        rw [hiso']
        clear hiso hiso'
        go_wp2_with fail
        exact ⟨⟨t + 1, _, rfl, by omega, by go_num, HST, HB5.out⟩, by simp [intOf]; omega⟩
    · obtain rfl : t = 17 := by omega
      have HQ := Lib.hid (HNO.out hse.out)
      go_wp2_with fail
      refine (HCO.out wq HBw.out).mono ?_
      rintro e w5 ⟨rfl, hb5⟩
      have HBw5 := Lib.hid (HBw.out.trans (hb5.mono HBw.out.size))
      clear hb5
      by_cases hc : connB (partsV m).length = true
      · rw [hc] at HQ ⊢
        clear hc
        go_wp2_with fail
        go_ret
        exact ⟨by rw [HQ.out]; rfl, HBw5.out⟩
      · have hc' : connB (partsV m).length = false := by simpa using hc
        rw [hc'] at HQ ⊢
        clear hc hc'
        go_wp2_with fail
        go_ret
        exact ⟨by rw [HQ.out]; rfl, HBw5.out⟩
end Go.Proofs.YtppimgkampkfjaaGreatDoor
