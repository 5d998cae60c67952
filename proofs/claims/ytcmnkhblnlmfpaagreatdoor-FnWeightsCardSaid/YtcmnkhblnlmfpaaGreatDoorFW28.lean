/-
  AreIsomorphic and SymmetriesOf of the program: what each call returns.
  AreIsomorphic and SymmetriesOf of the model: what each call returns.
  NameOfPart of the model: what the call returns.
  NameOf of the model: what the call returns.
  A law whose row lists one package-level variable, an array of strings: the variable reads as it read; what its cells hold; that the heap of the door meets the row's condition.
-/
import Derived.Deep.LoopGhost
import Derived.Test.YtcmnkhblnlmfpaaGreatDoorFW27
import Derived.Test.YtcmnkhblnlmfpaaGreatDoorFW25
import Derived.Test.YtcmnkhblnlmfpaaGreatDoorFW11
import Derived.Test.YtcmnkhblnlmfpaaGreatDoorRows
import Derived.ChangeVars
import Derived.LaidMore
import Derived.OpenShut
import Derived.Stop.Joined
import Derived.Lib.LaidTab
import Derived.Stop.LaidErr
import Derived.Below
import Derived.Test.YtcmnkhblnlmfpaaGreatDoorFW16
namespace Go.Proofs.YtcmnkhblnlmfpaaGreatDoor
open Go.RowKit

theorem eqM_get (a b : List (List Int)) (q : List Nat) : eqM (pick a (intL q)) b = selP a b q := rfl

set_option maxHeartbeats 4000000 in
set_option maxRecDepth 100000 in
theorem ob_any (B B' : Nat) (v v' : Value) (m m' : List (List Int)) (w : World) (h : MatB B w v m) (h' : MatB B' w v' m') (hB : B ≤ w.heap.size) (hB' : B' ≤ w.heap.size) (hf : RowsFit m) (hf' : RowsFit m') :
    Calls Tryz.prog 128 #[v, v'] w (MakesM w (obV m m')) := by
  obtain ⟨a, cap, rfl⟩ := h.slice
  have hl := hf.1
  have HR := Lib.hid h; clear h
  have HR' := Lib.hid h'; clear h'
  have HF := Lib.hid hf; clear hf
  have HF' := Lib.hid hf'; clear hf'
  by_cases hI : IsC m
  · have hn4 := hI.2.2.2
    have hn1 := hI.2.2.1
    have HC := Lib.hid (isB_yes hI)
    have HRW := Lib.hid hI.1
    have HV := Lib.hid (obV_yes (b := m') hI)
    have HSO := Lib.hid (step_ok m.length hn1 hn4)
    have hN24 := ords_len hn4
    have HSY := Lib.hid (fun t (ht : t < (ords m.length).length) => selT_yes (a := m) (b := m') ht)
    have HSN := Lib.hid (fun t (ht : t < (ords m.length).length) => selT_no (a := m) (b := m') ht)
    have HSL := Lib.hid (selT_len m m')
    have HS0 := Lib.hid (show selT m m' 0 = [] by unfold selT; rw [List.take_zero]; rfl)
    have HEQ := Lib.hid (eqM_get m m')
    have HPS := Lib.hid (fun (q : List Nat) (hq : q.length ≤ 4) => small_of (fullF_small (ptsF m (intL q)) (intL q).length (by rw [intL_len]; omega)))
    have HPK := Lib.hid (fun (q : List Nat) => show pick m (intL q) = fullF (ptsF m (intL q)) (intL q).length from rfl)
    clear hI
    generalize obV m m' = R at *
    generalize hT : ords m.length = T at *
    have HT := Lib.hid hT; clear hT
    generalize hTL : T.length = N at *
    have HTL := Lib.hid hTL; clear hTL
    generalize hn : m.length = n at *
    have HN := Lib.hid hn; clear hn
    unfold maxLen at hl
    have HFO := Lib.hid (fun w1 => fo_any n w1 (by omega))
    go_enter Tryz.func128, Tryz.ntmps128
    go_wp2_with fail
    refine (icm_w B _ m true HC.out _ HR.out HF.out).mono ?_
    rintro e w1 ⟨rfl, hb1⟩
    have HB1 := Lib.hid hb1
    have hs1 := hb1.size
    clear hb1
    go_wp2_with fail
    refine (HFO.out w1).mono ?_
    rintro e w2 ⟨x0, rfl, hx0, hb2⟩
    have HB2 := Lib.hid (HB1.out.trans (hb2.mono hs1))
    have hs2 := hb2.size
    have HX0 := Lib.hid hx0.1
    clear hb2 hx0
    have hso := HSO.out
    unfold StepOk at hso
    rw [HT.out] at hso
    obtain ⟨hfirst, hpos, hstep, htab⟩ := hso
    rw [HTL.out] at hpos hstep
    have HFI := Lib.hid hfirst; have HSTP := Lib.hid hstep; have HTAB := Lib.hid htab
    clear hfirst hstep htab HSO
    have hd0 : decide (0 < N) = true := decide_eq_true hpos
    go_wp2_with fail
    go_loopg [5, 6, 7] N (fun gk o x ok wr => ∃ (t C : Nat) (hs : List Value), t ≤ N ∧ gk = N - t ∧ ok = .bool (decide (t < N)) ∧ MatH w.heap.size wr o (tabL (selT m m' t)) hs ∧ (∀ y ∈ hs, ∀ g, y.ownBlock = some g → g < C) ∧ w.heap.size ≤ C ∧ C ≤ wr.heap.size ∧ (t < N → RowI C wr.heap.size wr x (intL (T.getD t []))) ∧ Below w.heap.size w wr)
    case atStart =>
      refine ⟨0, w1.heap.size, [], Nat.zero_le _, rfl, by rw [hd0], ?_, fun y hy => by simp at hy, hs1, hs2, fun _ => ?_, HB2.out⟩
      · rw [HS0.out]; exact MatH.nil _ _
      · rw [HFI.out]; exact HX0.out
    case round =>
      clear hd0
      obtain ⟨t, C, hs, ht, rfl, rfl, hM, hhs, hwC, hCw, hX, hb⟩ := hrel
      have HM := Lib.hid hM; clear hM
      have HHS := Lib.hid hhs; clear hhs
      have HX := Lib.hid hX; clear hX
      have HB := Lib.hid hb; clear hb
      by_cases hlt : t < N
      · have hlt' : decide (t < N) = true := decide_eq_true hlt
        rw [hlt']
        have hx := HX.out hlt
        obtain ⟨hq1, hq2⟩ := HSTP.out t hlt
        have hqm := List.mem_of_getElem? hq1
        obtain ⟨hql, hqp⟩ := HTAB.out _ hqm
        have HSY' := Lib.hid (HSY.out t hlt)
        have HSN' := Lib.hid (HSN.out t hlt)
        have HNX := Lib.hid hq2
        have HPT := Lib.hid (tab_pts hql hqp)
        have HEQ' := Lib.hid (HEQ.out (T.getD t []))
        have HPS' := Lib.hid (HPS.out (T.getD t []) (by omega))
        have HPK' := Lib.hid (HPK.out (T.getD t []))
        have HQL := Lib.hid hql
        clear hq1 hq2 hqm hql hqp hlt'
        obtain ⟨xa, xcap, rfl⟩ := hx.slice
        rw [intL_len, HQL.out] at hx ⊢
        have HXR := Lib.hid hx; clear hx HX
        have hsl := HSL.out t
        generalize T.getD t [] = q at *
        have hsw : w.heap.size ≤ wr.heap.size := HB.out.size
        have hiq : (intL q).length = n := by rw [intL_len]; exact HQL.out
        have HIQ := Lib.hid hiq; clear hiq
        go_wp2_with fail
        refine (pickp_any B wr.heap.size _ _ m (intL q) wr (HR.out.below HB.out hB) HXR.out.rowB (Nat.le_trans hB hsw) (Nat.le_refl _) HF.out (by rw [HN.out]; exact HRW.out) (by rw [HN.out]; exact HPT.out) (by rw [HIQ.out]; omega)).mono ?_
        rintro e w3 ⟨p, rfl, hp, hb3⟩
        have HP := Lib.hid hp
        have HB3 := Lib.hid (HB.out.trans (hb3.mono hsw))
        have HM3 := Lib.hid (HM.out.step hb3)
        have HX3 := Lib.hid (HXR.out.step hb3)
        have hs3 := hb3.size
        clear hp hb3
        go_wp2_with fail
        refine (eqci_b _ B' p _ (pick m (intL q)) m' w3 HP.out.matB (HR'.out.below HB3.out hB') (by rw [HPK'.out]; exact fit_of_small HPS'.out) HF'.out).mono ?_
        rintro e w4 ⟨rfl, hb4⟩
        rw [HEQ'.out]
        have HB4 := Lib.hid (HB3.out.trans (hb4.mono HB3.out.size))
        have HM4 := Lib.hid (HM3.out.step hb4)
        have HX4 := Lib.hid (HX3.out.step hb4)
        have hs4 := hb4.size
        clear hb4
        by_cases hsel : selP m m' q = true
        · rw [hsel]
          have HST := Lib.hid (HSY'.out hsel)
          clear hsel
          have hdis : ∀ y ∈ hs, y.ownBlock = none ∨ y.ownBlock ≠ (Value.slice xa n xcap).ownBlock := fun y hy => by
            cases hyb : y.ownBlock with
            | none => exact Or.inl rfl
            | some g =>
              right
              intro e
              have h1 := HHS.out y hy g hyb
              have h2 := (HX4.out.1.lt g e.symm).1
              omega
          have HDIS := Lib.hid hdis; clear hdis
          have hml : (tabL (selT m m' t)).length ≤ 1048576 := by rw [tabL_len]; omega
          have HML := Lib.hid hml; clear hml
          have hsw4 : w.heap.size ≤ w4.heap.size := by omega
          go_wp2_with (at_builtin; go_must (refine append_rowH HM4.out (HX4.out.mono hwC (Nat.le_refl _)) hsw4 HDIS.out rfl rfl rfl rfl HML.out ?_; intro v5 w5 hm5 hg5 hl5))
          have hm5' : MatH w.heap.size w5 v5 (tabL (selT m m' (t + 1))) (hs ++ [Value.slice xa n xcap]) := by
            rw [← HST.out, ← tabL_snoc]; exact hm5
          have HM5 := Lib.hid hm5'
          have hx5 : RowI C w5.heap.size w5 (Value.slice xa n xcap) (intL q) := by
            refine (HX4.out.grown hg5 ?_).mono (Nat.le_refl _) hg5.size
            cases hxb : (Value.slice xa n xcap).ownBlock with
            | none => exact Or.inl rfl
            | some g =>
              right
              intro e
              rcases own_other HX4.out.1 HM4.out.1 with h5 | h5
              · rw [h5] at e; cases e
              · exact h5 (by rw [← e, hxb])
          have HX5 := Lib.hid hx5
          have HB5 := Lib.hid (HB4.out.grown hg5 hsw4 (fun k hk => (HM4.out.1.lt k hk).1))
          have hs5 := hg5.size
          clear hm5 hm5' hx5 hg5 hl5
          go_wp2_with fail
          refine (nxt_any w5.heap.size _ n q w5 HX5.out.rowB (Nat.le_refl _) HQL.out hn1 hn4).mono ?_
          rintro e w6 ⟨hb6, hret⟩
          rw [HNX.out] at hret
          have HB6 := Lib.hid (HB5.out.trans (hb6.mono (by omega)))
          have HM6 := Lib.hid (HM5.out.step hb6)
          have hs6 := hb6.size
          clear hb6
          have hbnd : ∀ y ∈ hs ++ [Value.slice xa n xcap], ∀ g, y.ownBlock = some g → g < w5.heap.size := fun y hy g hg => by
            rcases List.mem_append.1 hy with h1 | h1
            · have := HHS.out y h1 g hg; omega
            · have e := List.mem_singleton.1 h1
              subst e
              exact (HX5.out.1.lt g hg).2
          have HBND := Lib.hid hbnd; clear hbnd
          by_cases hn2 : t + 1 < N
          · rw [(HSTP.out (t + 1) hn2).1] at hret
            obtain ⟨x', rfl, hx'⟩ := hret
            have HX' := Lib.hid hx'
            have hd : decide (t + 1 < N) = true := decide_eq_true hn2
            have HD := Lib.hid hd
            clear hx' hd
            go_wp2_with fail
            go_roundg (N - (t + 1))
            case measure => omega
            case rel => exact ⟨t + 1, w5.heap.size, hs ++ [Value.slice xa n xcap], by omega, rfl, by rw [HD.out], HM6.out, HBND.out, by omega, hs6, fun _ => HX'.out, HB6.out⟩
          · rw [List.getElem?_eq_none (by rw [HTL.out]; omega)] at hret
            have hret' : e = .returned (.tuple #[.slice none 0 0, .bool false]) := hret
            subst hret'
            have hd : decide (t + 1 < N) = false := decide_eq_false hn2
            have HD := Lib.hid hd
            clear hret hd
            go_wp2_with fail
            go_roundg (N - (t + 1))
            case measure => omega
            case rel => exact ⟨t + 1, w5.heap.size, hs ++ [Value.slice xa n xcap], by omega, rfl, by rw [HD.out], HM6.out, HBND.out, by omega, hs6, fun h => absurd h hn2, HB6.out⟩
        · have hsel' : selP m m' q = false := by simpa using hsel
          rw [hsel']
          have HST := Lib.hid (HSN'.out hsel')
          clear hsel hsel'
          go_wp2_with fail
          refine (nxt_any w4.heap.size _ n q w4 HX4.out.rowB (Nat.le_refl _) HQL.out hn1 hn4).mono ?_
          rintro e w6 ⟨hb6, hret⟩
          rw [HNX.out] at hret
          have HB6 := Lib.hid (HB4.out.trans (hb6.mono (by omega)))
          have hm6 : MatH w.heap.size w6 u5 (tabL (selT m m' (t + 1))) hs := by rw [← HST.out]; exact HM4.out.step hb6
          have HM6 := Lib.hid hm6
          have hs6 := hb6.size
          clear hb6 hm6
          have hbnd : ∀ y ∈ hs, ∀ g, y.ownBlock = some g → g < w4.heap.size := fun y hy g hg => by have := HHS.out y hy g hg; omega
          have HBND := Lib.hid hbnd; clear hbnd
          by_cases hn2 : t + 1 < N
          · rw [(HSTP.out (t + 1) hn2).1] at hret
            obtain ⟨x', rfl, hx'⟩ := hret
            have HX' := Lib.hid hx'
            have hd : decide (t + 1 < N) = true := decide_eq_true hn2
            have HD := Lib.hid hd
            clear hx' hd
            go_wp2_with fail
            go_roundg (N - (t + 1))
            case measure => omega
            case rel => exact ⟨t + 1, w4.heap.size, hs, by omega, rfl, by rw [HD.out], HM6.out, HBND.out, by omega, hs6, fun _ => HX'.out, HB6.out⟩
          · rw [List.getElem?_eq_none (by rw [HTL.out]; omega)] at hret
            have hret' : e = .returned (.tuple #[.slice none 0 0, .bool false]) := hret
            subst hret'
            have hd : decide (t + 1 < N) = false := decide_eq_false hn2
            have HD := Lib.hid hd
            clear hret hd
            go_wp2_with fail
            go_roundg (N - (t + 1))
            case measure => omega
            case rel => exact ⟨t + 1, w4.heap.size, hs, by omega, rfl, by rw [HD.out], HM6.out, HBND.out, by omega, hs6, fun h => absurd h hn2, HB6.out⟩
      · obtain rfl : N = t := by omega
        have hlt' : decide (N < N) = false := by simp
        rw [hlt']
        clear hlt'
        go_wp2_with fail
        go_ret
        exact ⟨_, rfl, by rw [HV.out]; exact ⟨HM.out.matI, Nat.le_refl _⟩, HB.out⟩
  · have HC := Lib.hid (isB_no hI)
    have HV := Lib.hid (obV_no (b := m') hI)
    clear hI
    generalize obV m m' = R at *
    generalize hn : m.length = n at *
    have HN := Lib.hid hn; clear hn
    unfold maxLen at hl
    go_enter Tryz.func128, Tryz.ntmps128
    go_wp2_with fail
    refine (icm_w B _ m false HC.out _ HR.out HF.out).mono ?_
    rintro e w1 ⟨rfl, hb1⟩
    have HB1 := Lib.hid hb1; clear hb1
    go_wp2_with fail
    go_ret
    exact makesM_nil HV.out (MatI.nil _ _ _) HB1.out

theorem MatI.rowI {A B : Nat} {w : World} {a : Option Addr} {n cap : Nat} {m : List (List Int)} (h : MatI A B w (.slice a n cap) m) {j : Nat} (hj : j < m.length) :
    ∃ b hv, a = some ⟨b, 0, none⟩ ∧ w.cell? ⟨b, j, none⟩ = some hv ∧ RowI A B w hv (m.getD j []) := by
  obtain ⟨hs, h1, h2, h3, _⟩ := h
  obtain ⟨hv, h4, h5⟩ := h3 j hj
  rcases h1.2 with ⟨_, he⟩ | ⟨g, cap', cur, hval, _⟩
  · omega
  · have ha : a = some ⟨g, 0, none⟩ := by injection hval
    have hn : n = m.length := by injection hval
    subst ha
    subst hn
    exact ⟨g, hv, rfl, by rw [h1.cellAt j (by omega)]; exact h4, by rw [getD_row m j hj]; exact h5⟩

set_option maxHeartbeats 1000000 in
set_option maxRecDepth 100000 in
theorem aii_any (B B' : Nat) (v v' : Value) (m m' : List (List Int)) (w : World) (h : MatB B w v m) (h' : MatB B' w v' m') (hB : B ≤ w.heap.size) (hB' : B' ≤ w.heap.size) (hf : RowsFit m) (hf' : RowsFit m') :
    Calls Tryz.prog 114 #[v, v'] w (MakesS2 w (isoL m m') (.bool (isoB m m'))) := by
  have HO := Lib.hid (ob_any B B' v v' m m' w h h' hB hB' hf hf')
  have hl24 := obV_len m m'
  clear h h'
  by_cases h0 : (obV m m').length = 0
  · have HL := Lib.hid (show isoL m m' = [] by unfold isoL; rw [List.eq_nil_of_length_eq_zero h0]; rfl)
    have HB := Lib.hid (show isoB m m' = false from decide_eq_false (fun h => h h0))
    generalize isoL m m' = l at *
    generalize isoB m m' = c at *
    have HLN := Lib.hid h0
    clear h0
    go_enter Tryz.func114, Tryz.ntmps114
    go_wp2_with fail
    refine HO.out.mono ?_
    rintro e w2 ⟨x, rfl, hx, hb⟩
    obtain ⟨xa, xcap, rfl⟩ := hx.1.slice
    rw [HLN.out]
    have HB2 := Lib.hid hb
    clear hx hb
    go_wp2_with fail
    go_ret2
    exact ⟨_, by rw [HB.out]; rfl, by rw [HL.out]; exact ⟨RowI.nil _ _ _, Nat.le_refl _⟩, HB2.out⟩
  · have HB := Lib.hid (show isoB m m' = true from decide_eq_true h0)
    have HL := Lib.hid (show isoL m m' = (obV m m').getD 0 [] from rfl)
    generalize isoL m m' = l at *
    generalize isoB m m' = c at *
    generalize hln : (obV m m').length = L at *
    have HLN := Lib.hid hln; clear hln
    have hz : ((L : Int) == 0) = false := by rw [beq_eq_false_iff_ne]; omega
    go_enter Tryz.func114, Tryz.ntmps114
    go_wp2_with fail
    refine HO.out.mono ?_
    rintro e w2 ⟨x, rfl, hx, hb⟩
    obtain ⟨xa, xcap, rfl⟩ := hx.1.slice
    rw [HLN.out] at hx ⊢
    obtain ⟨b, hv, rfl, hcell, hrow⟩ := hx.1.rowI (j := 0) (by rw [HLN.out]; omega)
    rw [← HL.out] at hrow
    have HROW := Lib.hid hrow
    have HB2 := Lib.hid hb
    clear hx hb hrow
    go_wp2_with fail
    go_ret2
    exact ⟨_, by rw [HB.out]; rfl, ⟨HROW.out, Nat.le_refl _⟩, HB2.out⟩
end Go.Proofs.YtcmnkhblnlmfpaaGreatDoor
namespace Go.Proofs.YtcmnkhblnlmfpaaGreatDoor
open Go.RowKit

/-! ### The table in the walk's world -/
def TabH (A B : Nat) (w : World) (v : Value) (m : List (List Int)) (hl : List Value) : Prop :=
  w.ownsRow A 25 1 v m.length hl ∧ (∀ g, v.ownBlock = some g → g < B) ∧ (∀ j (h : j < m.length), ∃ hv, hl[j]? = some hv ∧ RowI A B w hv m[j]) ∧
    ∀ (i j : Nat) (x y : Value), i ≠ j → hl[i]? = some x → hl[j]? = some y → x.ownBlock = none ∨ x.ownBlock ≠ y.ownBlock
theorem TabH.same {A B : Nat} {w w' : World} {v : Value} {m : List (List Int)} {hl : List Value} (h : TabH A B w v m hl) (hs : SameIn A B w w') : TabH A B w' v m hl :=
  ⟨ownsRow_same h.1 h.2.1 hs, h.2.1, fun j hj => by
    obtain ⟨hv, h1, h2⟩ := h.2.2.1 j hj
    exact ⟨hv, h1, h2.same hs⟩, h.2.2.2⟩
theorem TabH.row {A B : Nat} {w : World} {a : Option Addr} {n cap : Nat} {m : List (List Int)} {hl : List Value} (h : TabH A B w (.slice a n cap) m hl) {j : Nat} (hj : j < m.length) :
    ∃ b hv, a = some ⟨b, 0, none⟩ ∧ hl[j]? = some hv ∧ w.cell? ⟨b, j, none⟩ = some hv ∧ RowI A B w hv (m.getD j []) := by
  obtain ⟨h1, h2, h3, _⟩ := h
  obtain ⟨hv, h4, h5⟩ := h3 j hj
  rcases h1.2 with ⟨_, he⟩ | ⟨g, cap', cur, hval, _⟩
  · omega
  · have ha : a = some ⟨g, 0, none⟩ := by injection hval
    have hn : n = m.length := by injection hval
    subst ha
    subst hn
    exact ⟨g, hv, rfl, h4, by rw [h1.cellAt j (by omega)]; exact h4, by rw [getD_row m j hj]; exact h5⟩
theorem sameIn_grown {A B : Nat} {w w' : World} {S : Option Nat} (hg : w.grownBy w' S) (hB : B ≤ w.heap.size) (hS : ∀ g, S = some g → g < A ∨ B ≤ g) : SameIn A B w w' := fun k h1 h2 =>
  hg.block k (by omega) (fun e => by have := hS k e.symm; omega)
theorem selT_head {a b : List (List Int)} {t : Nat} {q : List Nat} (h : selT a b (t + 1) = [q]) (ht : t + 1 ≤ (ords a.length).length) :
    (tabL (selT a b (ords a.length).length)).getD 0 [] = intL q ∧ (tabL (selT a b (ords a.length).length)).length ≠ 0 := by
  have e : ∃ r, selT a b (ords a.length).length = q :: r := by
    refine ⟨((ords a.length).drop (t + 1)).filter (selP a b), ?_⟩
    have h1 : (ords a.length).take (ords a.length).length = (ords a.length).take (t + 1) ++ (ords a.length).drop (t + 1) := by rw [List.take_length, List.take_append_drop]
    have h2 : selT a b (t + 1) = ((ords a.length).take (t + 1)).filter (selP a b) := rfl
    unfold selT
    rw [h1, List.filter_append, ← h2, h]
    rfl
  obtain ⟨r, hr⟩ := e
  rw [hr]
  exact ⟨rfl, by simp [tabL]⟩

/-! ### SymmetriesOf of the model -/
end Go.Proofs.YtcmnkhblnlmfpaaGreatDoor
namespace Go.Proofs.YtcmnkhblnlmfpaaGreatDoor
open Go.RowKit

def namesL : List (List UInt8) := [[65, 49], [65, 50], [65, 51], [65, 52], [66, 50], [66, 51], [66, 52], [67, 51], [67, 52], [68, 52], [70, 52], [71, 50], [65, 49, 126], [65, 50, 126], [65, 51, 126], [67, 50, 126], [71, 50, 126]]
def strV (l : List UInt8) : Value := .string ⟨l.toArray⟩
def namesV : Array Value := (namesL.map strV).toArray
theorem namesV_get : ∀ t, t < 17 → namesV[t]? = some (strV (namesL.getD t [])) := by
  intro t ht
  simp [namesV, List.getD, show t < namesL.length from ht]
theorem typeP_small (l : List UInt8) : szSum (typeM l) ≤ 1048576 := by
  by_cases h : Fresh shTab l
  · unfold typeM; rw [typeAt_fresh h]; decide
  · have : ∃ p ∈ shTab, p.1 = l := Classical.byContradiction fun hn => h fun p hp e => hn ⟨p, hp, e⟩
    obtain ⟨p, hp, rfl⟩ := this
    obtain ⟨i, hi, rfl⟩ := List.getElem_of_mem hp
    unfold typeM
    rw [(sh_facts i hi).2.2.2.2]
    exact (show ∀ i (h : i < shTab.length), szSum (appC (chainL shTab[i].2.1) shTab[i].2.2) ≤ 1048576 by decide) i hi
noncomputable def nameT (m : List (List Int)) (k : Nat) : Option Nat := (List.range k).find? fun t => isoB m (typeM (namesL.getD t []))
theorem nameT_no {m : List (List Int)} {k : Nat} (h : nameT m k = none) (hk : isoB m (typeM (namesL.getD k [])) = false) : nameT m (k + 1) = none := by
  unfold nameT at h ⊢
  rw [List.range_succ, List.find?_append, h]
  simp [hk, ← List.getD_eq_getElem?_getD]
theorem nameT_hit {m : List (List Int)} {k : Nat} (h : nameT m k = none) (hk : isoB m (typeM (namesL.getD k [])) = true) (N : Nat) (hN : k < N) : nameT m N = some k := by
  have h1 : nameT m (k + 1) = some k := by
    unfold nameT at h ⊢
    rw [List.range_succ, List.find?_append, h]
    simp [hk, ← List.getD_eq_getElem?_getD]
  have e : List.range N = List.range (k + 1) ++ (List.range N).drop (k + 1) := by
    have h2 : (List.range N).take (k + 1) = List.range (k + 1) := by rw [List.take_range]; congr 1; omega
    rw [← h2, List.take_append_drop]
  unfold nameT at h1 ⊢
  rw [e, List.find?_append, h1]; rfl
noncomputable def nameP (m : List (List Int)) : List UInt8 := match nameT m 17 with
  | some t => namesL.getD t []
  | none => if connB (partsV m).length then [63] else []
theorem nameP_hit {m : List (List Int)} {t : Nat} (h : nameT m 17 = some t) : nameP m = namesL.getD t [] := by unfold nameP; rw [h]
theorem nameP_no {m : List (List Int)} (h : nameT m 17 = none) : nameP m = if connB (partsV m).length then [63] else [] := by unfold nameP; rw [h]

end Go.Proofs.YtcmnkhblnlmfpaaGreatDoor
namespace Go.Proofs.YtcmnkhblnlmfpaaGreatDoor
open Go.RowKit

theorem s_app (a b : ByteArray) : (a ++ b).data.toList = a.data.toList ++ b.data.toList := by simp [ByteArray.data_append]
theorem s_size (a b : ByteArray) : (a ++ b).size = a.size + b.size := ByteArray.size_append
theorem s_ofl {s : ByteArray} {l : List UInt8} (h : s.data.toList = l) : s = ⟨l.toArray⟩ := by subst h; rfl
theorem names_short : ∀ t, (namesL.getD t []).length ≤ 3 := by
  intro t
  by_cases h : t < 17
  · exact (show ∀ t, t < 17 → (namesL.getD t []).length ≤ 3 by decide) t h
  · rw [List.getD_eq_getElem?_getD, List.getElem?_eq_none (show namesL.length ≤ t by show 17 ≤ t; omega)]; simp
theorem nameP_short (m : List (List Int)) : (nameP m).length ≤ 3 := by
  unfold nameP
  split
  · exact names_short _
  · split <;> simp
noncomputable def partK (m : List (List Int)) (k : Nat) : List (List Int) := subM m ((partsV m).getD k [])
noncomputable def nameS (m : List (List Int)) : Nat → List UInt8
  | 0 => []
  | k + 1 => (if k = 0 then [] else nameS m k ++ [120]) ++ nameP (partK m k)
theorem nameS_succ (m : List (List Int)) (k : Nat) : nameS m (k + 1) = (if k = 0 then [] else nameS m k ++ [120]) ++ nameP (partK m k) := rfl
/-- What NameOf returns. -/
noncomputable def nameO (m : List (List Int)) : List UInt8 := nameS m (partsV m).length
theorem mem_le_sum {x : Nat} {l : List Nat} (h : x ∈ l) : x ≤ l.sum := by
  induction l with
  | nil => simp at h
  | cons y l ih =>
    rw [List.sum_cons]
    rcases List.mem_cons.1 h with rfl | h
    · omega
    · have := ih h; omega
theorem partsV_row {m : List (List Int)} {k : Nat} (hk : k < (partsV m).length) : ((partsV m).getD k []).length ≤ 4 := by
  by_cases h : IsC m
  · have h1 := (nbG_ok h).2.2.2.2
    have h4 := h.2.2.2
    have h2 := hk
    rw [partsV_yes h, List.length_map] at h2
    have e : (partsV m).getD k [] = intL ((partsL m)[k]) := by rw [partsV_yes h]; simp [List.getD, h2]
    rw [e, intL_len]
    have h3 : ((partsL m)[k]).length ≤ ((partsL m).map List.length).sum := by
      have : ((partsL m)[k]).length ∈ (partsL m).map List.length := List.mem_map.2 ⟨_, List.getElem_mem h2, rfl⟩
      exact mem_le_sum this
    have h5 : ((partsL m).map List.length).sum ≤ m.length := h1
    omega
  · rw [partsV_no h] at hk; simp at hk

end Go.Proofs.YtcmnkhblnlmfpaaGreatDoor
namespace Go.Proofs.YtcmnkhblnlmfpaaGreatDoor
open Go.ChangeShapes Go.WideShapes Go.ChangeAt Go.ChangeMaps Go.RowKit

/-! ### What a law leaves behind when its row lists one variable -/
theorem var_below {P : Program} {W W' : World} {n : String} {cs : Array Value} (h : W.var? P n = some cs) (hb : Below W.heap.size W W') : W'.var? P n = some cs := by
  unfold World.var? at h ⊢
  cases hg : P.globalNamed n with
  | none => rw [hg] at h; exact h
  | some g =>
    rw [hg] at h
    simp only [Option.bind_some] at h ⊢
    have hlt : g < W.heap.size := by
      cases hh : W.heap[g]? with
      | none => rw [hh] at h; cases h
      | some o => exact (Array.getElem?_eq_some_iff.1 hh).1
    rw [hb.block g hlt]; exact h
theorem law_post1 {H : Type} {enc : TypeId × Value → H} {P : Program} {f : Func} {s : ChangeSpec} {W W' : World} {args : Array Value} {ds gs : List (DataW H)} {before : List MemPlace} {tb : TypeId} {n : String} {g0 : Nat} {t0 : TypeId}
    (hl : laidOutB P = true) (hr : rowed P f.params.toList = true) (hv : s.vars = [n]) (hg0 : P.globalNamed n = some g0) (ht0 : (P.globals[g0]?).map (·.type) = some t0) (hr0 : rowed P [t0] = true)
    (hres : f.resultTypes = #[tb]) (htb : P.underlying tb = some .bool)
    (hW : DataW.Whole enc P f.params.toList s.vars false W args.toList ds gs before)
    (hfn : ∀ g, gs = [g] → s.fn H (ds ++ gs) = { results := [.lit (.bool true)], args := ds, vars := gs }) (hb : Below W.heap.size W W') :
    s.post enc P f false true false false W args (.bool true) W' := by
  have hlt : ∀ p ∈ before, p.block < W.heap.size := fun p hp => hW.lt p hp
  have hW0 := hW
  obtain ⟨p, q, hA, hV, rfl, hz, -⟩ := hW
  have hV0 := hV
  rw [hv] at hV0
  obtain ⟨g, t, cs, fuel, d, p1, rfl, h1, h2, h3, h4, rfl⟩ := trodVars_one hV0
  obtain rfl := Option.some.inj (hg0.symm.trans h1)
  obtain rfl := Option.some.inj (ht0.symm.trans h2)
  have hfn' := hfn d rfl
  have hrl : (Value.bool true).resultList f.resultTypes.size = [.bool true] := by rw [hres]; rfl
  have hR : ∀ (b : Nat) (sp : Nat → Bool) (hd : Bool), DataW.TrodAll enc P W' b sp hd f.resultTypes.toList ((Value.bool true).resultList f.resultTypes.size) (s.fn H (ds ++ [d])).results [] := by
    intro b sp hd
    rw [hrl, hres, hfn']
    exact trodAll_mk1 (shut_bool htb true)
  have hA' : ∀ sp : Nat → Bool, (∀ x ∈ p, sp x.block = true) → DataW.TrodAll enc P W' 0 sp true f.params.toList args.toList (s.fn H (ds ++ [d])).args p := by
    intro sp hs
    rw [hfn']
    exact stays_all hl hb sp hr (fun x hx => hlt x (by simp [hx])) hs hA
  simp only [rowed, List.all_cons, List.all_nil, Bool.and_true, Bool.and_eq_true, decide_eq_true_eq] at hr0
  have hV' : ∀ sp : Nat → Bool, (∀ x ∈ p1, sp x.block = true) → DataW.TrodVars enc P W' sp s.vars (s.fn H (ds ++ [d])).vars (MemPlace.row ⟨g0, 0, none⟩ cs.size ++ p1) := by
    intro sp hs
    rw [hfn', hv]
    have hst := WideElems.Trod_stays hl hr0.1 hr0.2 (v := .agg cs) (sp' := sp) ⟨fuel, h4⟩ (fun x hx => hb.same (hlt x (by simp [hx]))) hs
    obtain ⟨fuel', h5⟩ := hst
    exact trodVars_mk1 hg0 ht0 (var_below h3 hb) h5
  refine ⟨ds, [d], p ++ (MemPlace.row ⟨g0, 0, none⟩ cs.size ++ p1), [], p, MemPlace.row ⟨g0, 0, none⟩ cs.size ++ p1, hW0, hR _ _ _, hA' _ (fun x hx => by simpa using hlt x (by simp [hx])), hV' _ (fun x hx => by simpa using hlt x (by simp [hx])), World.keptBut_mono (fun x hx => ?_) (hb.frame (· ∈ p ++ (MemPlace.row ⟨g0, 0, none⟩ cs.size ++ p1))), fun h => by cases h⟩
  refine ⟨hx, ?_⟩
  rcases List.mem_append.1 hx with h | h
  · exact Or.inr (Or.inl h)
  · exact Or.inr (Or.inr h)

/-! ### What the listed variable holds -/
theorem cells_of_strs {H : Type} {enc : TypeId × Value → H} {P : Program} {w : World} {base : Nat} {sp : Nat → Bool} {held : Bool} {fuel : Nat} {t e : TypeId} {n : Nat} {cs : List Value} {zs : List (List UInt8)} {p : List MemPlace}
    (ht : P.underlying t = some (.array n e)) (he : P.underlying e = some .string) (hce : P.cellsOf e = 1) (hct : P.cellsOf t = n)
    (h : DataW.trod enc P w base sp held fuel t cs = some (.agg (zs.map fun z => .lit (.string z)), p)) : cs = zs.map fun z => Value.string ⟨z.toArray⟩ := by
  cases fuel with
  | zero => simp [DataW.trod] at h
  | succ fuel =>
    simp only [DataW.trod, ht, hce, hct, Nat.mul_one] at h
    split at h
    · rename_i hl
      obtain ⟨xs, hm, hx⟩ := Option.map_eq_some_iff.1 h
      have hxs : xs.map (·.1) = zs.map fun z => (DataW.lit (.string z) : DataW H) := by
        have := congrArg Prod.fst hx
        simpa using this
      have hxl : xs.length = n := by simpa using Lib.mapM_length hm
      have hzl : zs.length = n := by
        have := congrArg List.length hxs
        simp at this
        omega
      apply List.ext_getElem?
      intro i
      by_cases hi : i < n
      · obtain ⟨b, hb, hf⟩ := Lib.mapM_at hm i i (by simp [hi])
        obtain ⟨z, hc, rfl, _⟩ := DataW.trod_string he hf
        have h1 : cs[i]? = some (.string z) := by
          have := congrArg (·[0]?) hc
          simpa [List.getElem?_take, List.getElem?_drop] using this
        have h2 : (xs.map (·.1))[i]? = some (DataW.lit (.string z.data.toList) : DataW H) := by simp [hb]
        rw [hxs] at h2
        simp only [List.getElem?_map, Option.map_eq_some_iff, DataW.lit.injEq, Lit.string.injEq] at h2
        obtain ⟨z', hz', he'⟩ := h2
        have hz : z = ⟨z'.toArray⟩ := by rw [he']
        simp [h1, hz', hz]
      · rw [List.getElem?_eq_none (by omega), List.getElem?_eq_none (by simp; omega)]
    · cases h

/-- The variable holds the names of the chapter. -/
def NamesIs (w : World) (ns : List (List UInt8)) : Prop := w.var? Tryz.prog "loop.example/g02076/impl.partNames" = some (ns.map fun z => Value.string ⟨z.toArray⟩).toArray
theorem NamesIs.below {W W' : World} {ns : List (List UInt8)} (h : NamesIs W ns) (hb : Below W.heap.size W W') : NamesIs W' ns := var_below h hb
end Go.Proofs.YtcmnkhblnlmfpaaGreatDoor
