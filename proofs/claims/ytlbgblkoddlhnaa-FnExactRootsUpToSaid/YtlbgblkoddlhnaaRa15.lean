/-
  Roots: what the model's ReflectRoot and ActOnRoot return.
  Words: what the model's CompareWords, EqualWords, SupportOf and AlternatingWord return.
-/
import Derived.Test.YtlbgblkoddlhnaaRa14
import Derived.Test.YtlbgblkoddlhnaaRa12
import Derived.Deep.QuietTactic
import Derived.BigQuiet
namespace Go.Proofs.Ytlbgblkoddlhnaa
open Go.RowKit

set_option maxHeartbeats 4000000 in
set_option maxRecDepth 100000 in
theorem refrs_any (B B' : Nat) (v v' : Value) (m : List (List Int)) (l : List Int) (i : Int) (w : World) (h : MatB B w v m) (h' : RowB B' w v' l) (hB : B ≤ w.heap.size) (hB' : B' ≤ w.heap.size) (hf : RowsFit m) (hl : l.length ≤ 1048576) :
    Calls Try.prog 28 #[v, .int .i64 i, v'] w (MakesS w (refR m i l)) := by
  have HIS := Lib.hid (fun c (hc : isB m = c) => isc_w B v m c hc w h hf)
  have HRF := Lib.hid (fun (k : Nat) (wx : World) (hb : Below w.heap.size w wx) (hI : IsC m) (hll : l.length = m.length) (hk : k < m.length) => l7r_any B B' v v' m l k wx (h.below hb hB) (h'.below hb hB') (Nat.le_trans hB hb.size) (Nat.le_trans hB' hb.size) hI hll hk)
  have HL := Lib.hid h'
  have hlm := hf.1
  obtain ⟨a, cap, rfl⟩ := h.slice
  obtain ⟨a', cap', rfl⟩ := h'.slice
  clear h h' hf
  have HLL := Lib.hid (show ([] : List Int).length + l.length ≤ 4194304 by simp; omega)
  unfold maxLen at hlm
  by_cases hok : RefOk m i l
  · have HV := Lib.hid (refR_yes hok)
    obtain ⟨hI, hll, h0, h1⟩ := hok
    obtain ⟨k, rfl⟩ := Int.eq_ofNat_of_zero_le h0
    have HC := Lib.hid (HIS.out true (isB_yes hI))
    have HIN := Lib.hid (inB_yes (x := (k : Int)) (a := 0) (b := (m.length : Int) - 1) ⟨h0, h1⟩)
    have HR2 := Lib.hid (fun (wx : World) (hb : Below w.heap.size w wx) => HRF.out k wx hb hI hll (by omega))
    have hne : ((l.length : Int) != (m.length : Int)) = false := by rw [bne_eq_false_iff_eq]; omega
    rw [HV.out]
    simp only [Int.toNat_natCast]
    clear hI HRF HIS HL HLL HV
    generalize m.length = n at *
    generalize l.length = n' at *
    generalize rflR m k l = R at *
    clear hll
    go_enter Try.func28, Try.ntmps28
    go_wp2_with fail
    refine HC.out.mono ?_
    rintro e w1 ⟨rfl, hb⟩
    have HB1 := Lib.hid hb
    have HR3 := Lib.hid (HR2.out w1 hb)
    clear hb
    go_wp2_with fail
    refine (l1in_c _ _ _ true HIN.out _).mono ?_
    rintro e w' ⟨rfl, rfl⟩
    go_wp2_with fail
    refine HR3.out.mono ?_
    rintro e w2 ⟨x, rfl, hx, hb⟩
    have HX := Lib.hid (hx.1.mono HB1.out.size (Nat.le_refl _))
    have HB2 := Lib.hid (HB1.out.trans (hb.mono HB1.out.size))
    clear hx hb
    go_wp2_with fail
    go_ret
    exact ⟨_, rfl, ⟨HX.out, Nat.le_refl _⟩, HB2.out⟩
  · rw [refR_no hok]
    by_cases hI : IsC m
    · have HC := Lib.hid (HIS.out true (isB_yes hI))
      by_cases hll : l.length = m.length
      · have hi : ¬ (0 ≤ i ∧ i ≤ (m.length : Int) - 1) := fun h => hok ⟨hI, hll, h⟩
        have HIN := Lib.hid (inB_no hi)
        have hne : ((l.length : Int) != (m.length : Int)) = false := by rw [bne_eq_false_iff_eq]; omega
        clear hI HRF HIS hok hi hll
        generalize m.length = n at *
        generalize hnl : l.length = n' at *
        have HNL := Lib.hid hnl; clear hnl
        go_enter Try.func28, Try.ntmps28
        go_wp2_with fail
        refine HC.out.mono ?_
        rintro e w1 ⟨rfl, hb⟩
        have HB1 := Lib.hid hb
        clear hb
        go_wp2_with fail
        refine (l1in_c _ _ _ false HIN.out _).mono ?_
        rintro e w' ⟨rfl, rfl⟩
        have hb0 : Below w.heap.size w (w1.alloc (.cells #[] 3)) := HB1.out.alloc HB1.out.size _
        have HL1 := Lib.hid (HL.out.below hb0 hB')
        have hs0 : w1.heap.size ≤ (w1.alloc (.cells #[] 3)).heap.size := by simp
        have HB0 := Lib.hid hb0
        clear hb0
        go_wp2_with (at_builtin; go_must (refine append_intsA (row_empty w1) hs0 HL1.out (by rw [HNL.out]; exact HLL.out) rfl rfl rfl rfl ?_))
        intro v3 w3 hr3 hb3 hz3
        have hr3 : RowI w1.heap.size w3.heap.size w3 v3 l := by simpa using hr3
        have HR3 := Lib.hid (hr3.mono HB1.out.size (Nat.le_refl _))
        have HB3 := Lib.hid (HB1.out.trans ((hb3 w1 w1.heap.size (Nat.le_refl _) ((Below.refl _ _).alloc (Nat.le_refl _) _)).mono HB1.out.size))
        clear hb3 hz3 hr3
        go_wp2_with fail
        go_ret
        exact ⟨_, rfl, ⟨HR3.out, Nat.le_refl _⟩, HB3.out⟩
      · have hne : ((l.length : Int) != (m.length : Int)) = true := by rw [bne_iff_ne]; omega
        clear hI HRF HIS hok hll
        generalize m.length = n at *
        generalize hnl : l.length = n' at *
        have HNL := Lib.hid hnl; clear hnl
        go_enter Try.func28, Try.ntmps28
        go_wp2_with fail
        refine HC.out.mono ?_
        rintro e w1 ⟨rfl, hb⟩
        have HB1 := Lib.hid hb
        clear hb
        have hb0 : Below w.heap.size w (w1.alloc (.cells #[] 3)) := HB1.out.alloc HB1.out.size _
        have HL1 := Lib.hid (HL.out.below hb0 hB')
        have hs0 : w1.heap.size ≤ (w1.alloc (.cells #[] 3)).heap.size := by simp
        have HB0 := Lib.hid hb0
        clear hb0
        go_wp2_with (at_builtin; go_must (refine append_intsA (row_empty w1) hs0 HL1.out (by rw [HNL.out]; exact HLL.out) rfl rfl rfl rfl ?_))
        intro v3 w3 hr3 hb3 hz3
        have hr3 : RowI w1.heap.size w3.heap.size w3 v3 l := by simpa using hr3
        have HR3 := Lib.hid (hr3.mono HB1.out.size (Nat.le_refl _))
        have HB3 := Lib.hid (HB1.out.trans ((hb3 w1 w1.heap.size (Nat.le_refl _) ((Below.refl _ _).alloc (Nat.le_refl _) _)).mono HB1.out.size))
        clear hb3 hz3 hr3
        go_wp2_with fail
        go_ret
        exact ⟨_, rfl, ⟨HR3.out, Nat.le_refl _⟩, HB3.out⟩
    · have HC := Lib.hid (HIS.out false (isB_no hI))
      clear hI HRF HIS hok
      generalize m.length = n at *
      generalize hnl : l.length = n' at *
      have HNL := Lib.hid hnl; clear hnl
      go_enter Try.func28, Try.ntmps28
      go_wp2_with fail
      refine HC.out.mono ?_
      rintro e w1 ⟨rfl, hb⟩
      have HB1 := Lib.hid hb
      clear hb
      have hb0 : Below w.heap.size w (w1.alloc (.cells #[] 3)) := HB1.out.alloc HB1.out.size _
      have HL1 := Lib.hid (HL.out.below hb0 hB')
      have hs0 : w1.heap.size ≤ (w1.alloc (.cells #[] 3)).heap.size := by simp
      have HB0 := Lib.hid hb0
      clear hb0
      go_wp2_with (at_builtin; go_must (refine append_intsA (row_empty w1) hs0 HL1.out (by rw [HNL.out]; exact HLL.out) rfl rfl rfl rfl ?_))
      intro v3 w3 hr3 hb3 hz3
      have hr3 : RowI w1.heap.size w3.heap.size w3 v3 l := by simpa using hr3
      have HR3 := Lib.hid (hr3.mono HB1.out.size (Nat.le_refl _))
      have HB3 := Lib.hid (HB1.out.trans ((hb3 w1 w1.heap.size (Nat.le_refl _) ((Below.refl _ _).alloc (Nat.le_refl _) _)).mono HB1.out.size))
      clear hb3 hz3 hr3
      go_wp2_with fail
      go_ret
      exact ⟨_, rfl, ⟨HR3.out, Nat.le_refl _⟩, HB3.out⟩
set_option maxHeartbeats 4000000 in
set_option maxRecDepth 100000 in
theorem actrs_any (B B' B'' : Nat) (v v' v'' : Value) (m : List (List Int)) (ws l : List Int) (w : World) (h : MatB B w v m) (h' : RowB B' w v' ws) (h'' : RowB B'' w v'' l) (hB : B ≤ w.heap.size) (hB' : B' ≤ w.heap.size) (hB'' : B'' ≤ w.heap.size) (hf : RowsFit m) (hw : ws.length ≤ 1048576) (hl : l.length ≤ 1048576) :
    Calls Try.prog 30 #[v, v', v''] w (MakesS w (actR m ws l)) := by
  have hb0 : Below w.heap.size w (w.alloc (.cells #[] 3)) := (Below.refl _ _).alloc (Nat.le_refl _) _
  have HIW := Lib.hid (fun (wx : World) (hb : Below w.heap.size w wx) => isws_any B B' v v' m ws wx (h.below hb hB) (h'.below hb hB') hf (by unfold maxLen; omega))
  have HRF := Lib.hid (fun (k : Nat) (lx : List Int) (x : Value) (wx : World) (hb : Below w.heap.size w wx) (hx : RowI w.heap.size wx.heap.size wx x lx) (hI : IsC m) (hll : lx.length = m.length) (hk : k < m.length) => l7r_any B wx.heap.size v x m lx k wx (h.below hb hB) hx.rowB (Nat.le_trans hB hb.size) (Nat.le_refl _) hI hll hk)
  have HL := Lib.hid (h''.below hb0 hB'')
  have HB0 := Lib.hid hb0
  have hs0 : w.heap.size ≤ (w.alloc (.cells #[] 3)).heap.size := by simp
  have hlm := hf.1
  have HW := Lib.hid h'
  obtain ⟨a, cap, rfl⟩ := h.slice
  obtain ⟨a', cap', rfl⟩ := h'.slice
  obtain ⟨a'', cap'', rfl⟩ := h''.slice
  clear h h' h'' hf hb0
  have HLL := Lib.hid (show ([] : List Int).length + l.length ≤ 4194304 by simp; omega)
  unfold maxLen at hlm
  have HAY := Lib.hid (fun h => actR_yes (m := m) (ws := ws) (l := l) h)
  have HAN := Lib.hid (fun h => actR_no (m := m) (ws := ws) (l := l) h)
  have HWY := Lib.hid (fun h => wordB_yes (c := m) (l := ws) h)
  have HWN := Lib.hid (fun h => wordB_no (c := m) (l := ws) h)
  have HST := Lib.hid (fun k hk => actRW_step (m := m) (ws := ws) (l := l) (k := k) hk)
  have HLE := Lib.hid (fun k => actRW_len m (ws.drop k) l)
  have H0 := Lib.hid (show ws.drop 0 = ws from rfl)
  have HNIL := Lib.hid (show actRW m (ws.drop ws.length) l = l from by rw [List.drop_length]; rfl)
  generalize actR m ws l = R at *
  generalize wordB m ws = wb at *
  generalize hnw : ws.length = nw at *
  generalize hnl : l.length = nl at *
  generalize hnm : m.length = nm at *
  have HNW := Lib.hid hnw; have HNL := Lib.hid hnl; have HNM := Lib.hid hnm
  clear hnw hnl hnm
  go_enter Try.func30, Try.ntmps30
  go_wp2_with (at_builtin; go_must (refine append_intsA (row_empty w) hs0 HL.out (by rw [HNL.out]; exact HLL.out) rfl rfl rfl rfl ?_))
  intro v3 w3 hr3 hb3 hz3
  have hr3 : RowI w.heap.size w3.heap.size w3 v3 l := by simpa using hr3
  have HR3 := Lib.hid hr3
  have HB3 := Lib.hid (hb3 w w.heap.size (Nat.le_refl _) HB0.out)
  clear hb3 hz3 hr3 HL HB0 hs0 HLL
  go_wp2_with fail
  by_cases hok : ActOk m ws l
  · have HV := Lib.hid (HAY.out hok)
    have HWB := Lib.hid (HWY.out hok.1)
    have heq : ((nl : Int) == (nm : Int)) = true := by have := hok.2; rw [HNL.out, HNM.out] at this; rw [this]; simp
    have HI := Lib.hid hok.1
    have HLM := Lib.hid (show nl = nm from by have := hok.2; rw [HNL.out, HNM.out] at this; exact this)
    clear hok HAY HAN HWY HWN
    go_loopw [7, 8] (fun o i wr => ∃ (k : Nat) (wq : World), wq = wr ∧ k ≤ nw ∧ i = .int .i64 ((k : Int) - 1) ∧ RowI w.heap.size wq.heap.size wq o (actRW m (ws.drop k) l) ∧ Below w.heap.size w wq) (fun _ i _ => (intOf i + 1).toNat)
    case atStart => exact ⟨nw, _, rfl, Nat.le_refl _, rfl, by rw [HNIL.out]; exact HR3.out, HB3.out⟩
    case round =>
      obtain ⟨k, wq, rfl, hk, rfl, hM, hb⟩ := hrel
      have HM := Lib.hid hM; clear hM
      have hsq := hb.size
      have HB := Lib.hid hb
      have HWQ := Lib.hid (HIW.out wq hb)
      clear hb
      by_cases hlt : 0 < k
      · obtain ⟨j, rfl⟩ : ∃ j, k = j + 1 := ⟨k - 1, by omega⟩
        have e1 : ((j + 1 : Nat) : Int) - 1 = (j : Int) := by omega
        rw [e1]
        clear e1
        have hjw : j < nw := by omega
        have HLT := Lib.hid (HI.out.1 j (by rw [HNW.out]; exact hjw))
        have HS := Lib.hid (HST.out j hjw)
        have HLQ := Lib.hid (HLE.out (j + 1))
        rw [HNM.out] at HLT
        obtain ⟨t, ht⟩ : ∃ t : Nat, ws.getD j 0 = (t : Int) := Int.eq_ofNat_of_zero_le HLT.out.1
        have ht4 : t < nm := by have := HLT.out.2; rw [ht] at this; omega
        have HTN := Lib.hid ht4
        go_wp2_with fail
        refine HWQ.out.mono ?_
        rintro e w1 ⟨rfl, q, rfl⟩
        rw [HWB.out]
        obtain ⟨b, off, rfl, hbB, hc⟩ := ((HW.out.below HB.out hB').drewN q).getD hjw
        rw [ht] at hc
        have HBQ := Lib.hid (HB.out.trans ((below_drewN q).mono hsq))
        have HMQ := Lib.hid (HM.out.same (SameIn.of_below (below_drewN q) (Nat.le_refl _)))
        have HC := Lib.hid (HRF.out t _ _ _ HBQ.out HMQ.out HI.out.2.1 (by rw [HLQ.out]; exact HLM.out) HTN.out)
        have htn : (ws.getD j 0).toNat = t := by rw [ht]; rfl
        rw [htn] at HS
        clear ht htn hbB
        rw [HS.out] at HC
        go_wp2_with fail
        refine HC.out.mono ?_
        rintro e w2 ⟨x, rfl, hx, hb2⟩
        have HX := Lib.hid (hx.1.mono HBQ.out.size (Nat.le_refl _))
        have HB2 := Lib.hid (HBQ.out.trans (hb2.mono HBQ.out.size))
        clear hx hb2
        go_wp2_with fail
        exact ⟨⟨j, _, rfl, by omega, rfl, HX.out, HB2.out⟩, by simp [intOf]⟩
      · obtain rfl : k = 0 := by omega
        have hM := HM.out
        rw [H0.out] at hM
        have HM0 := Lib.hid hM
        clear hM
        go_wp2_with fail
        go_ret
        exact ⟨_, rfl, ⟨by rw [HV.out]; exact HM0.out, Nat.le_refl _⟩, HB.out⟩
  · have HV := Lib.hid (HAN.out hok)
    have hcase : (nw = 0) ∨ (0 < nw ∧ wb = false) ∨ (0 < nw ∧ wb = true ∧ ((nl : Int) == (nm : Int)) = false) := by
      by_cases h0 : nw = 0
      · exact Or.inl h0
      · by_cases hw : IsW m ws
        · refine Or.inr (Or.inr ⟨by omega, HWY.out hw, ?_⟩)
          rw [beq_eq_false_iff_ne]
          intro he
          exact hok ⟨hw, by rw [HNL.out, HNM.out]; omega⟩
        · exact Or.inr (Or.inl ⟨by omega, HWN.out hw⟩)
    clear hok HAY HAN HWY HWN HST HLE H0 HNIL HRF
    go_loopw [7, 8] (fun o i wr => o = v3 ∧ i = .int .i64 ((nw : Int) - 1) ∧ wr = w3) (fun _ _ _ => 0)
    case atStart => exact ⟨rfl, rfl, rfl⟩
    case round =>
      obtain ⟨rfl, rfl, rfl⟩ := hrel
      have HWQ := Lib.hid (HIW.out _ HB3.out)
      rcases hcase with h0 | ⟨h0, hw⟩ | ⟨h0, hw, heq⟩
      · have hd : decide (1 ≤ nw) = false := decide_eq_false (by omega)
        have hd2 : decide (0 < nw) = false := decide_eq_false (by omega)
        have hd3 : decide (1 ≤ (nw : Int)) = false := decide_eq_false (by omega)
        clear h0
        go_wp2_with fail
        go_ret
        exact ⟨_, rfl, ⟨by rw [HV.out]; exact HR3.out, Nat.le_refl _⟩, HB3.out⟩
      · subst hw
        have hd : decide (1 ≤ nw) = true := decide_eq_true (by omega)
        have hd2 : decide (0 < nw) = true := decide_eq_true (by omega)
        have hd3 : decide (1 ≤ (nw : Int)) = true := decide_eq_true (by omega)
        go_wp2_with fail
        refine HWQ.out.mono ?_
        rintro e w1 ⟨rfl, q, rfl⟩
        go_wp2_with fail
        go_ret
        exact ⟨_, rfl, ⟨by rw [HV.out]; exact HR3.out.same (SameIn.of_below (below_drewN q) (Nat.le_refl _)), Nat.le_refl _⟩, HB3.out.trans ((below_drewN q).mono HB3.out.size)⟩
      · subst hw
        have hd : decide (1 ≤ nw) = true := decide_eq_true (by omega)
        have hd2 : decide (0 < nw) = true := decide_eq_true (by omega)
        have hd3 : decide (1 ≤ (nw : Int)) = true := decide_eq_true (by omega)
        go_wp2_with fail
        refine HWQ.out.mono ?_
        rintro e w1 ⟨rfl, q, rfl⟩
        go_wp2_with fail
        go_ret
        exact ⟨_, rfl, ⟨by rw [HV.out]; exact HR3.out.same (SameIn.of_below (below_drewN q) (Nat.le_refl _)), Nat.le_refl _⟩, HB3.out.trans ((below_drewN q).mono HB3.out.size)⟩
end Go.Proofs.Ytlbgblkoddlhnaa
namespace Go.Proofs.Ytlbgblkoddlhnaa
open Go.RowKit

theorem ret_i64 {a b : Int} (h : a = b) : Ending.returned (.int .i64 a) = .returned (.int .i64 b) := by rw [h]
set_option maxHeartbeats 2000000 in
set_option maxRecDepth 100000 in
theorem cmps_any (B : Nat) (v v' : Value) (l l' : List Int) (w : World) (h : RowB B w v l) (h' : RowB B w v' l') (hl : l.length ≤ maxLen) (hl' : l'.length ≤ maxLen) :
    Calls Try.prog 96 #[v, v'] w fun e w' => e = .returned (.int .i64 (cmpW l l')) ∧ ∃ q, w' = w.drewN q := by
  obtain ⟨a, cap, rfl⟩ := h.slice
  obtain ⟨a', cap', rfl⟩ := h'.slice
  have HL := Lib.hid h; have HL' := Lib.hid h'
  clear h h'
  unfold maxLen at hl hl'
  have HLT := Lib.hid (fun (h : l.length < l'.length) => cmpW_lt h)
  have HGT := Lib.hid (fun (h : l'.length < l.length) => cmpW_gt h)
  have HAT := Lib.hid (fun k (hl : l.length = l'.length) (hk : k < l.length) (he : l.take k = l'.take k) (hne : l.getD k 0 ≠ l'.getD k 0) => cmpW_at hl hk he hne)
  have HEQ := Lib.hid (fun (h : l = l') => show cmpW l l' = 0 from cmpW_zero.2 h)
  have HTK := Lib.hid (fun k (hk : k < l.length) (hk' : k < l'.length) (he : l.take k = l'.take k) (hx : l.getD k 0 = l'.getD k 0) => show l.take (k + 1) = l'.take (k + 1) from by
    rw [List.take_succ_eq_append_getElem hk, List.take_succ_eq_append_getElem hk', he]
    simp [List.getD, hk, hk'] at hx
    rw [hx])
  have HFU := Lib.hid (fun (h1 : l.length = l'.length) (he : l.take l.length = l'.take l.length) => show l = l' from by
    rw [List.take_length, h1, List.take_length] at he; exact he)
  generalize cmpW l l' = R at *
  generalize hn : l.length = n at *
  generalize hn' : l'.length = n' at *
  have HN := Lib.hid hn; have HN' := Lib.hid hn'
  clear hn hn'
  rcases Nat.lt_trichotomy n n' with hlt | heq | hgt
  · have HV := Lib.hid (HLT.out hlt)
    have hne : ((n : Int) != (n' : Int)) = true := by rw [bne_iff_ne]; omega
    have hd : decide (n < n') = true := decide_eq_true hlt
    clear HLT HGT HAT HEQ HTK HFU hlt
    go_enter Try.func96, Try.ntmps96
    go_wp2_with fail
    go_ret
    exact ⟨ret_i64 HV.out.symm, 0, rfl⟩
  · subst heq
    go_enter Try.func96, Try.ntmps96
    go_wp2_with fail
    go_loopw [5] (fun i wr => ∃ (k q : Nat), k ≤ n ∧ i = .int .i64 k ∧ wr = w.drewN q ∧ Hid (l.take k = l'.take k)) (fun i _ => n - (intOf i).toNat)
    case atStart => exact ⟨0, 0, Nat.zero_le _, rfl, rfl, Lib.hid rfl⟩
    case round =>
      obtain ⟨k, q, hk, rfl, rfl, hp⟩ := hrel
      by_cases hlt : k < n
      · obtain ⟨b, off, rfl, hb, hc⟩ := HL.out.getD hlt
        obtain ⟨b', off', rfl, hb', hc'⟩ := HL'.out.getD hlt
        have HV := Lib.hid (fun h => HAT.out k (by first | rfl | trivial) hlt hp.out h)
        have HS := Lib.hid (fun h => HTK.out k hlt hlt hp.out h)
        clear HLT HGT HAT HEQ HTK HFU
        generalize l.getD k 0 = x at *
        generalize l'.getD k 0 = y at *
        by_cases hxy : x < y
        · have hd : decide (x < y) = true := decide_eq_true hxy
          have HV2 := Lib.hid ((HV.out (by omega)).trans (if_pos hxy))
          clear HV HS hxy
          go_wp2_with fail
          go_quiet (fail)
          go_wp2_with fail
          go_ret
          exact ⟨ret_i64 HV2.out.symm, q + nq, World.drewN_drewN _ _ _⟩
        · have hd : decide (x < y) = false := decide_eq_false hxy
          by_cases hyx : y < x
          · have hd2 : decide (y < x) = true := decide_eq_true hyx
            have HV2 := Lib.hid ((HV.out (by omega)).trans (if_neg hxy))
            clear HV HS hxy hyx
            go_wp2_with fail
            go_quiet (fail)
            go_wp2_with fail
            go_quiet (fail)
            go_wp2_with fail
            go_ret
            exact ⟨ret_i64 HV2.out.symm, _, by rw [World.drewN_drewN, World.drewN_drewN]⟩
          · have hd2 : decide (y < x) = false := decide_eq_false hyx
            have HS2 := Lib.hid (HS.out (by omega))
            clear HV HS hxy hyx
            go_wp2_with fail
            go_quiet (fail)
            go_wp2_with fail
            go_quiet (fail)
            go_wp2_with fail
            exact ⟨⟨k + 1, _, by omega, by go_num, rfl, HS2⟩, by simp [intOf]; omega⟩
      · obtain rfl : k = n := by omega
        have HV := Lib.hid (HEQ.out (HFU.out (by first | rfl | trivial) hp.out))
        clear HLT HGT HAT HEQ HTK HFU
        go_wp2_with fail
        go_ret
        exact ⟨ret_i64 HV.out.symm, q, rfl⟩
  · have HV := Lib.hid (HGT.out hgt)
    have hne : ((n : Int) != (n' : Int)) = true := by rw [bne_iff_ne]; omega
    have hd : decide (n < n') = false := decide_eq_false (by omega)
    clear HLT HGT HAT HEQ HTK HFU hgt
    go_enter Try.func96, Try.ntmps96
    go_wp2_with fail
    go_ret
    exact ⟨ret_i64 HV.out.symm, 0, rfl⟩
def eqwB (l l' : List Int) : Bool := decide (cmpW l l' = 0)
set_option maxRecDepth 100000 in
theorem eqws_any (B : Nat) (v v' : Value) (l l' : List Int) (w : World) (h : RowB B w v l) (h' : RowB B w v' l') (hl : l.length ≤ maxLen) (hl' : l'.length ≤ maxLen) :
    Calls Try.prog 79 #[v, v'] w fun e w' => e = .returned (.bool (eqwB l l')) ∧ ∃ q, w' = w.drewN q := by
  have HC := Lib.hid (cmps_any B v v' l l' w h h' hl hl')
  have HE := Lib.hid (show (cmpW l l' == 0) = eqwB l l' from rfl)
  clear h h' hl hl'
  generalize cmpW l l' = c at *
  go_enter Try.func79, Try.ntmps79
  go_wp2_with fail
  refine HC.out.mono ?_
  rintro e w' ⟨rfl, q, rfl⟩
  go_wp2_with fail
  go_ret
  exact ⟨ret_boolean HE.out, q, rfl⟩

end Go.Proofs.Ytlbgblkoddlhnaa
