/-
  Weights: what the model's ReflectWeight, ActOnWeight, RhoOf, AddWeights and SimpleRootWeight return.
  Weights: what the model's ActOnWeight, RhoOf, AddWeights and SimpleRootWeight return.
-/
import Derived.Test.YtfjeghalkmkgoaaGreatDoorFW39
import Derived.Test.YtfjeghalkmkgoaaGreatDoorFW25
import Derived.Test.YtfjeghalkmkgoaaGreatDoorFW15
namespace Go.Proofs.YtfjeghalkmkgoaaGreatDoor
open Go.RowKit

/-- A copy: 'append([]int{}, v...)' behind a walk. -/
abbrev CopyEnd (w : World) (l : List Int) (x : Value) (w' : World) : Prop := OwnS w.heap.size w'.heap.size w' x l ∧ Below w.heap.size w w'
set_option maxHeartbeats 4000000 in
set_option maxRecDepth 100000 in
theorem refs_any (B B' : Nat) (v v' : Value) (m : List (List Int)) (l : List Int) (i : Int) (w : World) (h : MatB B w v m) (h' : RowB B' w v' l) (hB : B ≤ w.heap.size) (hB' : B' ≤ w.heap.size) (hf : RowsFit m) (hl : l.length ≤ 1048576) :
    Calls Tryz.prog 8 #[v, .int .i64 i, v'] w (MakesS w (refwL m i l)) := by
  have HIS := Lib.hid (fun c (hc : isB m = c) => isc_w B v m c hc w h hf)
  have HRF := Lib.hid (fun (k : Nat) (wx : World) (hb : Below w.heap.size w wx) (hI : IsC m) (hll : l.length = m.length) (hk : k < m.length) => l6r_any B B' v v' m l k wx (h.below hb hB) (h'.below hb hB') (Nat.le_trans hB hb.size) (Nat.le_trans hB' hb.size) hI hll hk)
  have HL := Lib.hid h'
  have hlm := hf.1
  obtain ⟨a, cap, rfl⟩ := h.slice
  obtain ⟨a', cap', rfl⟩ := h'.slice
  clear h h' hf
  have HLL := Lib.hid (show ([] : List Int).length + l.length ≤ 4194304 by simp; omega)
  unfold maxLen at hlm
  by_cases hok : RefOk m i l
  · have HV := Lib.hid (refwL_yes hok)
    obtain ⟨hI, hll, h0, h1⟩ := hok
    obtain ⟨k, rfl⟩ := Int.eq_ofNat_of_zero_le h0
    have HC := Lib.hid (HIS.out true (isB_yes hI))
    have HIN := Lib.hid (inB_yes (x := (k : Int)) (a := 0) (b := (m.length : Int) - 1) ⟨h0, h1⟩)
    have HR2 := Lib.hid (fun (wx : World) (hb : Below w.heap.size w wx) => HRF.out k wx hb hI hll (by omega))
    have hne : ((l.length : Int) != (m.length : Int)) = false := by rw [bne_eq_false_iff_eq]; omega
    rw [HV.out]
    simp only [Int.toNat_natCast]
    clear hI HRF HIS HL HLL HV
    generalize m.length = n at *
    generalize l.length = n' at *
    generalize reflL m k l = R at *
    clear hll
    go_enter Tryz.func8, Tryz.ntmps8
    go_wp2_with fail
    refine HC.out.mono ?_
    rintro e w1 ⟨rfl, hb⟩
    have HB1 := Lib.hid hb
    have HR3 := Lib.hid (HR2.out w1 hb)
    clear hb
    go_wp2_with fail
    refine (l1in_c _ _ _ true HIN.out _).mono ?_
    rintro e w' ⟨rfl, rfl⟩
    go_wp2_with fail
    refine HR3.out.mono ?_
    rintro e w2 ⟨x, rfl, hx, hb⟩
    have HX := Lib.hid (hx.1.mono HB1.out.size (Nat.le_refl _))
    have HB2 := Lib.hid (HB1.out.trans (hb.mono HB1.out.size))
    clear hx hb
    go_wp2_with fail
    go_ret
    exact ⟨_, rfl, ⟨HX.out, Nat.le_refl _⟩, HB2.out⟩
  · rw [refwL_no hok]
    by_cases hI : IsC m
    · have HC := Lib.hid (HIS.out true (isB_yes hI))
      by_cases hll : l.length = m.length
      · have hi : ¬ (0 ≤ i ∧ i ≤ (m.length : Int) - 1) := fun h => hok ⟨hI, hll, h⟩
        have HIN := Lib.hid (inB_no hi)
        have hne : ((l.length : Int) != (m.length : Int)) = false := by rw [bne_eq_false_iff_eq]; omega
        clear hI HRF HIS hok hi hll
        generalize m.length = n at *
        generalize hnl : l.length = n' at *
        have HNL := Lib.hid hnl; clear hnl
        go_enter Tryz.func8, Tryz.ntmps8
        go_wp2_with fail
        refine HC.out.mono ?_
        rintro e w1 ⟨rfl, hb⟩
        have HB1 := Lib.hid hb
        clear hb
        go_wp2_with fail
        refine (l1in_c _ _ _ false HIN.out _).mono ?_
        rintro e w' ⟨rfl, rfl⟩
        have hb0 : Below w.heap.size w (w1.alloc (.cells #[] 3)) := HB1.out.alloc HB1.out.size _
        have HL1 := Lib.hid (HL.out.below hb0 hB')
        have hs0 : w1.heap.size ≤ (w1.alloc (.cells #[] 3)).heap.size := by simp
        have HB0 := Lib.hid hb0
        clear hb0
        go_wp2_with (at_builtin; go_must (refine append_intsA (row_empty w1) hs0 HL1.out (by rw [HNL.out]; exact HLL.out) rfl rfl rfl rfl ?_))
        intro v3 w3 hr3 hb3 hz3
        have hr3 : RowI w1.heap.size w3.heap.size w3 v3 l := by simpa using hr3
        have HR3 := Lib.hid (hr3.mono HB1.out.size (Nat.le_refl _))
        have HB3 := Lib.hid (HB1.out.trans ((hb3 w1 w1.heap.size (Nat.le_refl _) ((Below.refl _ _).alloc (Nat.le_refl _) _)).mono HB1.out.size))
        clear hb3 hz3 hr3
        go_wp2_with fail
        go_ret
        exact ⟨_, rfl, ⟨HR3.out, Nat.le_refl _⟩, HB3.out⟩
      · have hne : ((l.length : Int) != (m.length : Int)) = true := by rw [bne_iff_ne]; omega
        clear hI HRF HIS hok hll
        generalize m.length = n at *
        generalize hnl : l.length = n' at *
        have HNL := Lib.hid hnl; clear hnl
        go_enter Tryz.func8, Tryz.ntmps8
        go_wp2_with fail
        refine HC.out.mono ?_
        rintro e w1 ⟨rfl, hb⟩
        have HB1 := Lib.hid hb
        clear hb
        have hb0 : Below w.heap.size w (w1.alloc (.cells #[] 3)) := HB1.out.alloc HB1.out.size _
        have HL1 := Lib.hid (HL.out.below hb0 hB')
        have hs0 : w1.heap.size ≤ (w1.alloc (.cells #[] 3)).heap.size := by simp
        have HB0 := Lib.hid hb0
        clear hb0
        go_wp2_with (at_builtin; go_must (refine append_intsA (row_empty w1) hs0 HL1.out (by rw [HNL.out]; exact HLL.out) rfl rfl rfl rfl ?_))
        intro v3 w3 hr3 hb3 hz3
        have hr3 : RowI w1.heap.size w3.heap.size w3 v3 l := by simpa using hr3
        have HR3 := Lib.hid (hr3.mono HB1.out.size (Nat.le_refl _))
        have HB3 := Lib.hid (HB1.out.trans ((hb3 w1 w1.heap.size (Nat.le_refl _) ((Below.refl _ _).alloc (Nat.le_refl _) _)).mono HB1.out.size))
        clear hb3 hz3 hr3
        go_wp2_with fail
        go_ret
        exact ⟨_, rfl, ⟨HR3.out, Nat.le_refl _⟩, HB3.out⟩
    · have HC := Lib.hid (HIS.out false (isB_no hI))
      clear hI HRF HIS hok
      generalize m.length = n at *
      generalize hnl : l.length = n' at *
      have HNL := Lib.hid hnl; clear hnl
      go_enter Tryz.func8, Tryz.ntmps8
      go_wp2_with fail
      refine HC.out.mono ?_
      rintro e w1 ⟨rfl, hb⟩
      have HB1 := Lib.hid hb
      clear hb
      have hb0 : Below w.heap.size w (w1.alloc (.cells #[] 3)) := HB1.out.alloc HB1.out.size _
      have HL1 := Lib.hid (HL.out.below hb0 hB')
      have hs0 : w1.heap.size ≤ (w1.alloc (.cells #[] 3)).heap.size := by simp
      have HB0 := Lib.hid hb0
      clear hb0
      go_wp2_with (at_builtin; go_must (refine append_intsA (row_empty w1) hs0 HL1.out (by rw [HNL.out]; exact HLL.out) rfl rfl rfl rfl ?_))
      intro v3 w3 hr3 hb3 hz3
      have hr3 : RowI w1.heap.size w3.heap.size w3 v3 l := by simpa using hr3
      have HR3 := Lib.hid (hr3.mono HB1.out.size (Nat.le_refl _))
      have HB3 := Lib.hid (HB1.out.trans ((hb3 w1 w1.heap.size (Nat.le_refl _) ((Below.refl _ _).alloc (Nat.le_refl _) _)).mono HB1.out.size))
      clear hb3 hz3 hr3
      go_wp2_with fail
      go_ret
      exact ⟨_, rfl, ⟨HR3.out, Nat.le_refl _⟩, HB3.out⟩
end Go.Proofs.YtfjeghalkmkgoaaGreatDoor
namespace Go.Proofs.YtfjeghalkmkgoaaGreatDoor
open Go.RowKit

set_option maxHeartbeats 4000000 in
set_option maxRecDepth 100000 in
theorem acts_any (B B' B'' : Nat) (v v' v'' : Value) (m : List (List Int)) (ws l : List Int) (w : World) (h : MatB B w v m) (h' : RowB B' w v' ws) (h'' : RowB B'' w v'' l) (hB : B ≤ w.heap.size) (hB' : B' ≤ w.heap.size) (hB'' : B'' ≤ w.heap.size) (hf : RowsFit m) (hw : ws.length ≤ 1048576) (hl : l.length ≤ 1048576) :
    Calls Tryz.prog 23 #[v, v', v''] w (MakesS w (actL m ws l)) := by
  have hb0 : Below w.heap.size w (w.alloc (.cells #[] 3)) := (Below.refl _ _).alloc (Nat.le_refl _) _
  have HIW := Lib.hid (fun (wx : World) (hb : Below w.heap.size w wx) => isws_any B B' v v' m ws wx (h.below hb hB) (h'.below hb hB') hf (by unfold maxLen; omega))
  have HRF := Lib.hid (fun (k : Nat) (lx : List Int) (x : Value) (wx : World) (hb : Below w.heap.size w wx) (hx : RowI w.heap.size wx.heap.size wx x lx) (hI : IsC m) (hll : lx.length = m.length) (hk : k < m.length) => l6r_any B wx.heap.size v x m lx k wx (h.below hb hB) hx.rowB (Nat.le_trans hB hb.size) (Nat.le_refl _) hI hll hk)
  have HL := Lib.hid (h''.below hb0 hB'')
  have HB0 := Lib.hid hb0
  have hs0 : w.heap.size ≤ (w.alloc (.cells #[] 3)).heap.size := by simp
  have hlm := hf.1
  have HW := Lib.hid h'
  obtain ⟨a, cap, rfl⟩ := h.slice
  obtain ⟨a', cap', rfl⟩ := h'.slice
  obtain ⟨a'', cap'', rfl⟩ := h''.slice
  clear h h' h'' hf hb0
  have HLL := Lib.hid (show ([] : List Int).length + l.length ≤ 4194304 by simp; omega)
  unfold maxLen at hlm
  have HAY := Lib.hid (fun h => actL_yes (m := m) (ws := ws) (l := l) h)
  have HAN := Lib.hid (fun h => actL_no (m := m) (ws := ws) (l := l) h)
  have HWY := Lib.hid (fun h => wordB_yes (c := m) (l := ws) h)
  have HWN := Lib.hid (fun h => wordB_no (c := m) (l := ws) h)
  have HST := Lib.hid (fun k hk => actW_step (m := m) (ws := ws) (l := l) (k := k) hk)
  have HLE := Lib.hid (fun k => actW_len m (ws.drop k) l)
  have H0 := Lib.hid (show ws.drop 0 = ws from rfl)
  have HNIL := Lib.hid (show actW m (ws.drop ws.length) l = l from by rw [List.drop_length]; rfl)
  generalize actL m ws l = R at *
  generalize wordB m ws = wb at *
  generalize hnw : ws.length = nw at *
  generalize hnl : l.length = nl at *
  generalize hnm : m.length = nm at *
  have HNW := Lib.hid hnw; have HNL := Lib.hid hnl; have HNM := Lib.hid hnm
  clear hnw hnl hnm
  go_enter Tryz.func23, Tryz.ntmps23
  go_wp2_with (at_builtin; go_must (refine append_intsA (row_empty w) hs0 HL.out (by rw [HNL.out]; exact HLL.out) rfl rfl rfl rfl ?_))
  intro v3 w3 hr3 hb3 hz3
  have hr3 : RowI w.heap.size w3.heap.size w3 v3 l := by simpa using hr3
  have HR3 := Lib.hid hr3
  have HB3 := Lib.hid (hb3 w w.heap.size (Nat.le_refl _) HB0.out)
  clear hb3 hz3 hr3 HL HB0 hs0 HLL
  go_wp2_with fail
  by_cases hok : ActOk m ws l
  · have HV := Lib.hid (HAY.out hok)
    have HWB := Lib.hid (HWY.out hok.1)
    have heq : ((nl : Int) == (nm : Int)) = true := by have := hok.2; rw [HNL.out, HNM.out] at this; rw [this]; simp
    have HI := Lib.hid hok.1
    have HLM := Lib.hid (show nl = nm from by have := hok.2; rw [HNL.out, HNM.out] at this; exact this)
    clear hok HAY HAN HWY HWN
    go_loopw [7, 8] (fun o i wr => ∃ (k : Nat) (wq : World), wq = wr ∧ k ≤ nw ∧ i = .int .i64 ((k : Int) - 1) ∧ RowI w.heap.size wq.heap.size wq o (actW m (ws.drop k) l) ∧ Below w.heap.size w wq) (fun _ i _ => (intOf i + 1).toNat)
    case atStart => exact ⟨nw, _, rfl, Nat.le_refl _, rfl, by rw [HNIL.out]; exact HR3.out, HB3.out⟩
    case round =>
      obtain ⟨k, wq, rfl, hk, rfl, hM, hb⟩ := hrel
      have HM := Lib.hid hM; clear hM
      have hsq := hb.size
      have HB := Lib.hid hb
      have HWQ := Lib.hid (HIW.out wq hb)
      clear hb
      by_cases hlt : 0 < k
      · obtain ⟨j, rfl⟩ : ∃ j, k = j + 1 := ⟨k - 1, by omega⟩
        have e1 : ((j + 1 : Nat) : Int) - 1 = (j : Int) := by omega
        rw [e1]
        clear e1
        have hjw : j < nw := by omega
        have HLT := Lib.hid (HI.out.1 j (by rw [HNW.out]; exact hjw))
        have HS := Lib.hid (HST.out j hjw)
        have HLQ := Lib.hid (HLE.out (j + 1))
        rw [HNM.out] at HLT
        obtain ⟨t, ht⟩ : ∃ t : Nat, ws.getD j 0 = (t : Int) := Int.eq_ofNat_of_zero_le HLT.out.1
        have ht4 : t < nm := by have := HLT.out.2; rw [ht] at this; omega
        have HTN := Lib.hid ht4
        go_wp2_with fail
        refine HWQ.out.mono ?_
        rintro e w1 ⟨rfl, q, rfl⟩
        rw [HWB.out]
        obtain ⟨b, off, rfl, hbB, hc⟩ := ((HW.out.below HB.out hB').drewN q).getD hjw
        rw [ht] at hc
        have HBQ := Lib.hid (HB.out.trans ((below_drewN q).mono hsq))
        have HMQ := Lib.hid (HM.out.same (SameIn.of_below (below_drewN q) (Nat.le_refl _)))
        have HC := Lib.hid (HRF.out t _ _ _ HBQ.out HMQ.out HI.out.2.1 (by rw [HLQ.out]; exact HLM.out) HTN.out)
        have htn : (ws.getD j 0).toNat = t := by rw [ht]; rfl
        rw [htn] at HS
        clear ht htn hbB
        rw [HS.out] at HC
        go_wp2_with fail
        refine HC.out.mono ?_
        rintro e w2 ⟨x, rfl, hx, hb2⟩
        have HX := Lib.hid (hx.1.mono HBQ.out.size (Nat.le_refl _))
        have HB2 := Lib.hid (HBQ.out.trans (hb2.mono HBQ.out.size))
        clear hx hb2
        go_wp2_with fail
        exact ⟨⟨j, _, rfl, by omega, rfl, HX.out, HB2.out⟩, by simp [intOf]⟩
      · obtain rfl : k = 0 := by omega
        have hM := HM.out
        rw [H0.out] at hM
        have HM0 := Lib.hid hM
        clear hM
        go_wp2_with fail
        go_ret
        exact ⟨_, rfl, ⟨by rw [HV.out]; exact HM0.out, Nat.le_refl _⟩, HB.out⟩
  · have HV := Lib.hid (HAN.out hok)
    have hcase : (nw = 0) ∨ (0 < nw ∧ wb = false) ∨ (0 < nw ∧ wb = true ∧ ((nl : Int) == (nm : Int)) = false) := by
      by_cases h0 : nw = 0
      · exact Or.inl h0
      · by_cases hw : IsW m ws
        · refine Or.inr (Or.inr ⟨by omega, HWY.out hw, ?_⟩)
          rw [beq_eq_false_iff_ne]
          intro he
          exact hok ⟨hw, by rw [HNL.out, HNM.out]; omega⟩
        · exact Or.inr (Or.inl ⟨by omega, HWN.out hw⟩)
    clear hok HAY HAN HWY HWN HST HLE H0 HNIL HRF
    go_loopw [7, 8] (fun o i wr => o = v3 ∧ i = .int .i64 ((nw : Int) - 1) ∧ wr = w3) (fun _ _ _ => 0)
    case atStart => exact ⟨rfl, rfl, rfl⟩
    case round =>
      obtain ⟨rfl, rfl, rfl⟩ := hrel
      have HWQ := Lib.hid (HIW.out _ HB3.out)
      rcases hcase with h0 | ⟨h0, hw⟩ | ⟨h0, hw, heq⟩
      · have hd : decide (1 ≤ nw) = false := decide_eq_false (by omega)
        have hd2 : decide (0 < nw) = false := decide_eq_false (by omega)
        have hd3 : decide (1 ≤ (nw : Int)) = false := decide_eq_false (by omega)
        clear h0
        go_wp2_with fail
        go_ret
        exact ⟨_, rfl, ⟨by rw [HV.out]; exact HR3.out, Nat.le_refl _⟩, HB3.out⟩
      · subst hw
        have hd : decide (1 ≤ nw) = true := decide_eq_true (by omega)
        have hd2 : decide (0 < nw) = true := decide_eq_true (by omega)
        have hd3 : decide (1 ≤ (nw : Int)) = true := decide_eq_true (by omega)
        go_wp2_with fail
        refine HWQ.out.mono ?_
        rintro e w1 ⟨rfl, q, rfl⟩
        go_wp2_with fail
        go_ret
        exact ⟨_, rfl, ⟨by rw [HV.out]; exact HR3.out.same (SameIn.of_below (below_drewN q) (Nat.le_refl _)), Nat.le_refl _⟩, HB3.out.trans ((below_drewN q).mono HB3.out.size)⟩
      · subst hw
        have hd : decide (1 ≤ nw) = true := decide_eq_true (by omega)
        have hd2 : decide (0 < nw) = true := decide_eq_true (by omega)
        have hd3 : decide (1 ≤ (nw : Int)) = true := decide_eq_true (by omega)
        go_wp2_with fail
        refine HWQ.out.mono ?_
        rintro e w1 ⟨rfl, q, rfl⟩
        go_wp2_with fail
        go_ret
        exact ⟨_, rfl, ⟨by rw [HV.out]; exact HR3.out.same (SameIn.of_below (below_drewN q) (Nat.le_refl _)), Nat.le_refl _⟩, HB3.out.trans ((below_drewN q).mono HB3.out.size)⟩
end Go.Proofs.YtfjeghalkmkgoaaGreatDoor
