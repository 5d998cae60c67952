/-
  Weights: what the model's ActOnWeight, RhoOf, AddWeights and SimpleRootWeight return.
  Weights: what the model's RhoOf, AddWeights and SimpleRootWeight return.
  Lengths: what the model's image of the ones and its greedy word return.
-/
import Derived.Test.YtfjeghalkmkgoaaFl17
namespace Go.Proofs.Ytfjeghalkmkgoaa
open Go.RowKit

set_option maxHeartbeats 4000000 in
set_option maxRecDepth 100000 in
theorem acts_any (B B' B'' : Nat) (v v' v'' : Value) (m : List (List Int)) (ws l : List Int) (w : World) (h : MatB B w v m) (h' : RowB B' w v' ws) (h'' : RowB B'' w v'' l) (hB : B ≤ w.heap.size) (hB' : B' ≤ w.heap.size) (hB'' : B'' ≤ w.heap.size) (hf : RowsFit m) (hw : ws.length ≤ 1048576) (hl : l.length ≤ 1048576) :
    Calls Try.prog 38 #[v, v', v''] w (MakesS w (actL m ws l)) := by
  have hb0 : Below w.heap.size w (w.alloc (.cells #[] 3)) := (Below.refl _ _).alloc (Nat.le_refl _) _
  have HIW := Lib.hid (fun (wx : World) (hb : Below w.heap.size w wx) => isws_any B B' v v' m ws wx (h.below hb hB) (h'.below hb hB') hf (by unfold maxLen; omega))
  have HRF := Lib.hid (fun (k : Nat) (lx : List Int) (x : Value) (wx : World) (hb : Below w.heap.size w wx) (hx : RowI w.heap.size wx.heap.size wx x lx) (hI : IsC m) (hll : lx.length = m.length) (hk : k < m.length) => l6r_any B wx.heap.size v x m lx k wx (h.below hb hB) hx.rowB (Nat.le_trans hB hb.size) (Nat.le_refl _) hI hll hk)
  have HL := Lib.hid (h''.below hb0 hB'')
  have HB0 := Lib.hid hb0
  have hs0 : w.heap.size ≤ (w.alloc (.cells #[] 3)).heap.size := by simp
  have hlm := hf.1
  have HW := Lib.hid h'
  obtain ⟨a, cap, rfl⟩ := h.slice
  obtain ⟨a', cap', rfl⟩ := h'.slice
  obtain ⟨a'', cap'', rfl⟩ := h''.slice
  clear h h' h'' hf hb0
  have HLL := Lib.hid (show ([] : List Int).length + l.length ≤ 4194304 by simp; omega)
  unfold maxLen at hlm
  have HAY := Lib.hid (fun h => actL_yes (m := m) (ws := ws) (l := l) h)
  have HAN := Lib.hid (fun h => actL_no (m := m) (ws := ws) (l := l) h)
  have HWY := Lib.hid (fun h => wordB_yes (c := m) (l := ws) h)
  have HWN := Lib.hid (fun h => wordB_no (c := m) (l := ws) h)
  have HST := Lib.hid (fun k hk => actW_step (m := m) (ws := ws) (l := l) (k := k) hk)
  have HLE := Lib.hid (fun k => actW_len m (ws.drop k) l)
  have H0 := Lib.hid (show ws.drop 0 = ws from rfl)
  have HNIL := Lib.hid (show actW m (ws.drop ws.length) l = l from by rw [List.drop_length]; rfl)
  generalize actL m ws l = R at *
  generalize wordB m ws = wb at *
  generalize hnw : ws.length = nw at *
  generalize hnl : l.length = nl at *
  generalize hnm : m.length = nm at *
  have HNW := Lib.hid hnw; have HNL := Lib.hid hnl; have HNM := Lib.hid hnm
  clear hnw hnl hnm
  go_enter Try.func38, Try.ntmps38
  go_wp2_with (at_builtin; go_must (refine append_intsA (row_empty w) hs0 HL.out (by rw [HNL.out]; exact HLL.out) rfl rfl rfl rfl ?_))
  intro v3 w3 hr3 hb3 hz3
  have hr3 : RowI w.heap.size w3.heap.size w3 v3 l := by simpa using hr3
  have HR3 := Lib.hid hr3
  have HB3 := Lib.hid (hb3 w w.heap.size (Nat.le_refl _) HB0.out)
  clear hb3 hz3 hr3 HL HB0 hs0 HLL
  go_wp2_with fail
  by_cases hok : ActOk m ws l
  · have HV := Lib.hid (HAY.out hok)
    have HWB := Lib.hid (HWY.out hok.1)
    have heq : ((nl : Int) == (nm : Int)) = true := by have := hok.2; rw [HNL.out, HNM.out] at this; rw [this]; simp
    have HI := Lib.hid hok.1
    have HLM := Lib.hid (show nl = nm from by have := hok.2; rw [HNL.out, HNM.out] at this; exact this)
    clear hok HAY HAN HWY HWN
    go_loopw [7, 8] (fun o i wr => ∃ (k : Nat) (wq : World), wq = wr ∧ k ≤ nw ∧ i = .int .i64 ((k : Int) - 1) ∧ RowI w.heap.size wq.heap.size wq o (actW m (ws.drop k) l) ∧ Below w.heap.size w wq) (fun _ i _ => (intOf i + 1).toNat)
    case atStart => exact ⟨nw, _, rfl, Nat.le_refl _, rfl, by rw [HNIL.out]; exact HR3.out, HB3.out⟩
    case round =>
      obtain ⟨k, wq, rfl, hk, rfl, hM, hb⟩ := hrel
      have HM := Lib.hid hM; clear hM
      have hsq := hb.size
      have HB := Lib.hid hb
      have HWQ := Lib.hid (HIW.out wq hb)
      clear hb
      by_cases hlt : 0 < k
      · obtain ⟨j, rfl⟩ : ∃ j, k = j + 1 := ⟨k - 1, by omega⟩
        have e1 : ((j + 1 : Nat) : Int) - 1 = (j : Int) := by omega
        rw [e1]
        clear e1
        have hjw : j < nw := by omega
        have HLT := Lib.hid (HI.out.1 j (by rw [HNW.out]; exact hjw))
        have HS := Lib.hid (HST.out j hjw)
        have HLQ := Lib.hid (HLE.out (j + 1))
        rw [HNM.out] at HLT
        obtain ⟨t, ht⟩ : ∃ t : Nat, ws.getD j 0 = (t : Int) := Int.eq_ofNat_of_zero_le HLT.out.1
        have ht4 : t < nm := by have := HLT.out.2; rw [ht] at this; omega
        have HTN := Lib.hid ht4
        go_wp2_with fail
        refine HWQ.out.mono ?_
        rintro e w1 ⟨rfl, q, rfl⟩
        rw [HWB.out]
        obtain ⟨b, off, rfl, hbB, hc⟩ := ((HW.out.below HB.out hB').drewN q).getD hjw
        rw [ht] at hc
        have HBQ := Lib.hid (HB.out.trans ((below_drewN q).mono hsq))
        have HMQ := Lib.hid (HM.out.same (SameIn.of_below (below_drewN q) (Nat.le_refl _)))
        have HC := Lib.hid (HRF.out t _ _ _ HBQ.out HMQ.out HI.out.2.1 (by rw [HLQ.out]; exact HLM.out) HTN.out)
        have htn : (ws.getD j 0).toNat = t := by rw [ht]; rfl
        rw [htn] at HS
        clear ht htn hbB
        rw [HS.out] at HC
        go_wp2_with fail
        refine HC.out.mono ?_
        rintro e w2 ⟨x, rfl, hx, hb2⟩
        have HX := Lib.hid (hx.1.mono HBQ.out.size (Nat.le_refl _))
        have HB2 := Lib.hid (HBQ.out.trans (hb2.mono HBQ.out.size))
        clear hx hb2
        go_wp2_with fail
        exact ⟨⟨j, _, rfl, by omega, rfl, HX.out, HB2.out⟩, by simp [intOf]⟩
      · obtain rfl : k = 0 := by omega
        have hM := HM.out
        rw [H0.out] at hM
        have HM0 := Lib.hid hM
        clear hM
        go_wp2_with fail
        go_ret
        exact ⟨_, rfl, ⟨by rw [HV.out]; exact HM0.out, Nat.le_refl _⟩, HB.out⟩
  · have HV := Lib.hid (HAN.out hok)
    have hcase : (nw = 0) ∨ (0 < nw ∧ wb = false) ∨ (0 < nw ∧ wb = true ∧ ((nl : Int) == (nm : Int)) = false) := by
      by_cases h0 : nw = 0
      · exact Or.inl h0
      · by_cases hw : IsW m ws
        · refine Or.inr (Or.inr ⟨by omega, HWY.out hw, ?_⟩)
          rw [beq_eq_false_iff_ne]
          intro he
          exact hok ⟨hw, by rw [HNL.out, HNM.out]; omega⟩
        · exact Or.inr (Or.inl ⟨by omega, HWN.out hw⟩)
    clear hok HAY HAN HWY HWN HST HLE H0 HNIL HRF
    go_loopw [7, 8] (fun o i wr => o = v3 ∧ i = .int .i64 ((nw : Int) - 1) ∧ wr = w3) (fun _ _ _ => 0)
    case atStart => exact ⟨rfl, rfl, rfl⟩
    case round =>
      obtain ⟨rfl, rfl, rfl⟩ := hrel
      have HWQ := Lib.hid (HIW.out _ HB3.out)
      rcases hcase with h0 | ⟨h0, hw⟩ | ⟨h0, hw, heq⟩
      · have hd : decide (1 ≤ nw) = false := decide_eq_false (by omega)
        have hd2 : decide (0 < nw) = false := decide_eq_false (by omega)
        have hd3 : decide (1 ≤ (nw : Int)) = false := decide_eq_false (by omega)
        clear h0
        go_wp2_with fail
        go_ret
        exact ⟨_, rfl, ⟨by rw [HV.out]; exact HR3.out, Nat.le_refl _⟩, HB3.out⟩
      · subst hw
        have hd : decide (1 ≤ nw) = true := decide_eq_true (by omega)
        have hd2 : decide (0 < nw) = true := decide_eq_true (by omega)
        have hd3 : decide (1 ≤ (nw : Int)) = true := decide_eq_true (by omega)
        go_wp2_with fail
        refine HWQ.out.mono ?_
        rintro e w1 ⟨rfl, q, rfl⟩
        go_wp2_with fail
        go_ret
        exact ⟨_, rfl, ⟨by rw [HV.out]; exact HR3.out.same (SameIn.of_below (below_drewN q) (Nat.le_refl _)), Nat.le_refl _⟩, HB3.out.trans ((below_drewN q).mono HB3.out.size)⟩
      · subst hw
        have hd : decide (1 ≤ nw) = true := decide_eq_true (by omega)
        have hd2 : decide (0 < nw) = true := decide_eq_true (by omega)
        have hd3 : decide (1 ≤ (nw : Int)) = true := decide_eq_true (by omega)
        go_wp2_with fail
        refine HWQ.out.mono ?_
        rintro e w1 ⟨rfl, q, rfl⟩
        go_wp2_with fail
        go_ret
        exact ⟨_, rfl, ⟨by rw [HV.out]; exact HR3.out.same (SameIn.of_below (below_drewN q) (Nat.le_refl _)), Nat.le_refl _⟩, HB3.out.trans ((below_drewN q).mono HB3.out.size)⟩
end Go.Proofs.Ytfjeghalkmkgoaa
namespace Go.Proofs.Ytfjeghalkmkgoaa
open Go.RowKit

set_option maxHeartbeats 4000000 in
set_option maxRecDepth 100000 in
theorem rhos_any (B : Nat) (v : Value) (m : List (List Int)) (w : World) (h : MatB B w v m) (hB : B ≤ w.heap.size) (hf : RowsFit m) :
    Calls Try.prog 82 #[v] w (MakesS w (rhoL m)) := by
  have HIS := Lib.hid (fun c (hc : isB m = c) (wx : World) (hb : Below w.heap.size w wx) => isc_w B v m c hc wx (h.below hb hB) hf)
  have hlm := hf.1
  obtain ⟨a, cap, rfl⟩ := h.slice
  clear h hf
  unfold maxLen at hlm
  by_cases hI : IsC m
  · have HV := Lib.hid (rhoL_yes hI)
    have HC := Lib.hid (fun wx hb => HIS.out true (isB_yes hI) wx hb)
    have hn4 := hI.2.2.2
    clear HIS hI
    rw [HV.out]
    clear HV
    generalize m.length = n at *
    go_enter Try.func82, Try.ntmps82
    go_wp2_with fail
    go_loopw [3, 4] (fun o i wr => ∃ (k : Nat) (wq : World), wq = wr ∧ k ≤ n ∧ i = .int .i64 k ∧ RowI w.heap.size wq.heap.size wq o (onesR k) ∧ Below w.heap.size w wq) (fun _ i _ => n - (intOf i).toNat)
    case atStart => exact ⟨0, _, rfl, Nat.zero_le _, rfl, row_empty w, (Below.refl _ _).alloc (Nat.le_refl _) _⟩
    case round =>
      obtain ⟨k, wq, rfl, hk, rfl, hM, hb⟩ := hrel
      have HM := Lib.hid hM
      have HCQ := Lib.hid (HC.out wq hb)
      have hsq := hb.size
      have HB := Lib.hid hb
      clear hM hb
      by_cases hlt : k < n
      · have hd : decide (k < n) = true := decide_eq_true hlt
        go_wp2_with fail
        refine HCQ.out.mono ?_
        rintro e w1 ⟨rfl, hb1⟩
        have HM1 := Lib.hid (HM.out.step hb1)
        have HB1 := Lib.hid (HB.out.trans (hb1.mono hsq))
        have hs1 : w.heap.size ≤ w1.heap.size := HB1.out.size
        have HRL := Lib.hid (show (onesR k).length ≤ 4194304 by simp [onesR]; omega)
        have HS := Lib.hid (onesR_step k)
        clear hb1
        go_wp2_with (at_builtin; go_must (refine append_int HM1.out hs1 1 rfl rfl rfl rfl HRL.out ?_; intro v' w3 hr3 hb3 hz3))
        rw [HS.out] at hr3
        have HR3 := Lib.hid hr3
        have HB3 := Lib.hid (hb3 w w.heap.size (Nat.le_refl _) HB1.out)
        clear hr3 hb3 hz3
        go_wp2_with fail
        exact ⟨⟨k + 1, _, rfl, by omega, by go_num, HR3.out, HB3.out⟩, by simp [intOf]; omega⟩
      · obtain rfl : k = n := by omega
        have hd : decide (k < k) = false := by simp
        go_wp2_with fail
        go_ret
        exact ⟨_, rfl, ⟨HM.out, Nat.le_refl _⟩, HB.out⟩
  · have HV := Lib.hid (rhoL_no hI)
    have HC := Lib.hid (fun wx hb => HIS.out false (isB_no hI) wx hb)
    clear HIS hI
    rw [HV.out]
    clear HV
    generalize m.length = n at *
    go_enter Try.func82, Try.ntmps82
    go_wp2_with fail
    go_loopw [3, 4] (fun o i wr => i = .int .i64 0 ∧ o = .slice (some ⟨w.heap.size, 0, none⟩) 0 0 ∧ wr = w.alloc (.cells #[] 3)) (fun _ _ _ => 0)
    case atStart => exact ⟨rfl, rfl, rfl⟩
    case round =>
      obtain ⟨rfl, rfl, rfl⟩ := hrel
      have HB := Lib.hid (show Below w.heap.size w (w.alloc (.cells #[] 3)) from (Below.refl _ _).alloc (Nat.le_refl _) _)
      have HCQ := Lib.hid (HC.out _ HB.out)
      by_cases h0 : 0 < n
      · have hd : decide (0 < n) = true := decide_eq_true h0
        go_wp2_with fail
        refine HCQ.out.mono ?_
        rintro e w2 ⟨rfl, hb2⟩
        have HB2 := Lib.hid hb2; clear hb2
        go_wp2_with fail
        go_ret
        exact ⟨_, rfl, ⟨(row_empty w).step HB2.out, Nat.le_refl _⟩, HB.out.trans (HB2.out.mono HB.out.size)⟩
      · have hd : decide (0 < n) = false := decide_eq_false h0
        go_wp2_with fail
        go_ret
        exact ⟨_, rfl, ⟨row_empty w, Nat.le_refl _⟩, HB.out⟩

end Go.Proofs.Ytfjeghalkmkgoaa
namespace Go.Proofs.Ytfjeghalkmkgoaa
open Go.RowKit

set_option maxHeartbeats 4000000 in
set_option maxRecDepth 100000 in
theorem img8_any (B B' : Nat) (v v' : Value) (m : List (List Int)) (ws : List Int) (w : World) (h : MatB B w v m) (h' : RowB B' w v' ws) (hB : B ≤ w.heap.size) (hB' : B' ≤ w.heap.size) (hf : RowsFit m) (hI : IsC m) (hW : LetTo m.length ws ws.length) (hw : ws.length ≤ 1048576) :
    Calls Try.prog 56 #[v, v'] w (MakesS w (imgW m ws)) := by
  have HRH := Lib.hid (rhos_any B v m w h hB hf)
  have HRF := Lib.hid (fun (k : Nat) (lx : List Int) (x : Value) (wx : World) (hb : Below w.heap.size w wx) (hx : RowI w.heap.size wx.heap.size wx x lx) (hll : lx.length = m.length) (hk : k < m.length) => l6r_any B wx.heap.size v x m lx k wx (h.below hb hB) hx.rowB (Nat.le_trans hB hb.size) (Nat.le_refl _) hI hll hk)
  have HV := Lib.hid (rhoL_yes hI)
  have HW := Lib.hid h'
  have HLT := Lib.hid hW
  obtain ⟨a, cap, rfl⟩ := h.slice
  obtain ⟨a', cap', rfl⟩ := h'.slice
  clear h h' hf hI hW
  have HON := Lib.hid (show (onesR m.length).length = m.length by simp [onesR])
  have HST := Lib.hid (fun k hk => actW_step (m := m) (ws := ws) (l := onesR m.length) (k := k) hk)
  have HLE := Lib.hid (fun k => (actW_len m (ws.drop k) (onesR m.length)).trans HON.out)
  have H0 := Lib.hid (show actW m (ws.drop 0) (onesR m.length) = imgW m ws from rfl)
  have HNIL := Lib.hid (show actW m (ws.drop ws.length) (onesR m.length) = onesR m.length from by rw [List.drop_length]; rfl)
  generalize imgW m ws = R at *
  generalize rhoL m = rho at *
  generalize hnw : ws.length = nw at *
  generalize hnm : m.length = nm at *
  have HNW := Lib.hid hnw; have HNM := Lib.hid hnm
  clear hnw hnm
  go_enter Try.func56, Try.ntmps56
  go_wp2_with fail
  refine HRH.out.mono ?_
  rintro e w3 ⟨v3, rfl, hr3, hb3⟩
  rw [HV.out] at hr3
  have HR3 := Lib.hid hr3.1
  have HB3 := Lib.hid hb3
  clear hr3 hb3 HRH
  go_wp2_with fail
  go_loopw [5, 6] (fun o i wr => ∃ (k : Nat) (wq : World), wq = wr ∧ k ≤ nw ∧ i = .int .i64 ((k : Int) - 1) ∧ RowI w.heap.size wq.heap.size wq o (actW m (ws.drop k) (onesR nm)) ∧ Below w.heap.size w wq) (fun _ i _ => (intOf i + 1).toNat)
  case atStart => exact ⟨nw, _, rfl, Nat.le_refl _, rfl, by rw [HNIL.out]; exact HR3.out, HB3.out⟩
  case round =>
    obtain ⟨k, wq, rfl, hk, rfl, hM, hb⟩ := hrel
    have HM := Lib.hid hM; clear hM
    have hsq := hb.size
    have HB := Lib.hid hb
    clear hb
    by_cases hlt : 0 < k
    · obtain ⟨j, rfl⟩ : ∃ j, k = j + 1 := ⟨k - 1, by omega⟩
      have e1 : ((j + 1 : Nat) : Int) - 1 = (j : Int) := by omega
      rw [e1]
      clear e1
      have hjw : j < nw := by omega
      have HL1 := Lib.hid (HLT.out j hjw)
      have HS := Lib.hid (HST.out j hjw)
      have HLQ := Lib.hid (HLE.out (j + 1))
      obtain ⟨t, ht⟩ : ∃ t : Nat, ws.getD j 0 = (t : Int) := Int.eq_ofNat_of_zero_le HL1.out.1
      have ht4 : t < nm := by have := HL1.out.2; rw [ht] at this; omega
      have HTN := Lib.hid ht4
      obtain ⟨b, off, rfl, hbB, hc⟩ := (HW.out.below HB.out hB').getD hjw
      rw [ht] at hc
      have HC := Lib.hid (HRF.out t _ _ _ HB.out HM.out HLQ.out HTN.out)
      have htn : (ws.getD j 0).toNat = t := by rw [ht]; rfl
      rw [htn] at HS
      clear ht htn hbB
      rw [HS.out] at HC
      go_wp2_with fail
      refine HC.out.mono ?_
      rintro e w2 ⟨x, rfl, hx, hb2⟩
      have HX := Lib.hid (hx.1.mono HB.out.size (Nat.le_refl _))
      have HB2 := Lib.hid (HB.out.trans (hb2.mono HB.out.size))
      clear hx hb2
      go_wp2_with fail
      exact ⟨⟨j, _, rfl, by omega, rfl, HX.out, HB2.out⟩, by simp [intOf]⟩
    · obtain rfl : k = 0 := by omega
      have hM := HM.out
      rw [H0.out] at hM
      have HM0 := Lib.hid hM
      clear hM
      go_wp2_with fail
      go_ret
      exact ⟨_, rfl, ⟨HM0.out, Nat.le_refl _⟩, HB.out⟩
set_option maxHeartbeats 4000000 in
set_option maxRecDepth 100000 in
theorem frm8_any (B B' : Nat) (v v' : Value) (m : List (List Int)) (l : List Int) (w : World) (h : MatB B w v m) (h' : RowB B' w v' l) (hB : B ≤ w.heap.size) (hB' : B' ≤ w.heap.size) (hI : IsC m) (hll : l.length = m.length) :
    Calls Try.prog 78 #[v, v'] w (MakesS w (frmI m 31 l)) := by
  have HRF := Lib.hid (fun (k : Nat) (lx : List Int) (x : Value) (wx : World) (hb : Below w.heap.size w wx) (hx : RowB wx.heap.size wx x lx) (hll : lx.length = m.length) (hk : k < m.length) => l6r_any B wx.heap.size v x m lx k wx (h.below hb hB) hx (Nat.le_trans hB hb.size) (Nat.le_refl _) hI hll hk)
  have hn1 := hI.2.2.1
  have hn4 := hI.2.2.2
  have hb0 : Below w.heap.size w (w.alloc (.cells #[] 3)) := (Below.refl _ _).alloc (Nat.le_refl _) _
  have HB0 := Lib.hid hb0
  have HC0 := Lib.hid (show CurR (w.alloc (.cells #[] 3)) (.slice (some ⟨w.heap.size, 0, none⟩) 0 0) v' l from CurR.of (h'.below hb0 hB') (by omega) (Nat.le_trans hB' hb0.size) (fun g hg => by have : w.heap.size = g := by simpa [Value.ownBlock] using hg
                                                                                                                                                                                                 omega))
  have HRL := Lib.hid (fun (lx : List Int) (i : Nat) (hx : lx.length = m.length) => (reflL_len m i lx).trans hx)
  have HH := Lib.hid (fun (wx : World) (x : Value) (hx : RowB wx.heap.size wx x l) => trivial)
  have HST := Lib.hid (fun (lx : List Int) (r : Nat) (h : firstDown lx ≠ lx.length) => frmI_step (m := m) (k := r) h)
  have HEN := Lib.hid (fun (lx : List Int) (r : Nat) (h : firstDown lx = lx.length) => frmI_end (m := m) (k := r) h)
  have HZ := Lib.hid (frmI_zero m)
  obtain ⟨a, cap, rfl⟩ := h.slice
  obtain ⟨a', cap', rfl⟩ := h'.slice
  clear h h' hI hb0 HH
  have HLL := Lib.hid hll
  rw [hll] at HC0 ⊢
  generalize hR : frmI m 31 l = R at *
  have HRE := Lib.hid hR; clear hR
  generalize hnm : m.length = nm at *
  clear hnm hll
  go_enter Try.func78, Try.ntmps78
  go_wp2_with fail
  go_loopw [1, 5, 6] (fun x o n wr => ∃ (k : Nat) (acc cur : List Int) (wq : World), wq = wr ∧ k ≤ 31 ∧ n = .int .i64 k ∧ RowI w.heap.size wq.heap.size wq o acc ∧ CurR wq o x cur ∧ Hid (cur.length = nm) ∧ Hid (acc ++ frmI m (31 - k) cur = R) ∧ Hid (acc.length = k) ∧ Below w.heap.size w wq) (fun _ _ n _ => 31 - (intOf n).toNat)
  case atStart => exact ⟨0, [], l, _, rfl, Nat.zero_le _, rfl, row_empty w, HC0.out, HLL, Lib.hid (show frmI m (31 - 0) l = R from HRE.out), Lib.hid rfl, HB0.out⟩
  case round =>
    obtain ⟨k, acc, cur, wq, rfl, hk, rfl, hM, hC, HCL, HAC, HAL, hb⟩ := hrel
    have HM := Lib.hid hM
    have HB := Lib.hid hb
    have HC := Lib.hid hC
    have hsq := hb.size
    have hCB := hC.rowB
    obtain ⟨xa, xcap, rfl⟩ := hC.slice
    have HCB := Lib.hid hCB
    clear hM hb hC hCB
    rw [HCL.out] at HC HCB ⊢
    by_cases hk30 : k ≤ 30
    · have hd : decide ((k : Int) ≤ 30) = true := decide_eq_true (by omega)
      go_wp2_with fail
      go_loopw [7] (fun i wr => ∃ (t q : Nat), wr = wq.drewN q ∧ t ≤ nm ∧ i = .int .i64 t ∧ Hid (UpTo cur t)) (fun i _ => nm - (intOf i).toNat)
      case atStart => exact ⟨0, 0, rfl, Nat.zero_le _, rfl, Lib.hid (Nat.zero_le _)⟩
      case round =>
        obtain ⟨t, q, rfl, ht, rfl, HU⟩ := hrel
        by_cases htn : t < nm
        · have hd2 : decide (t < nm) = true := decide_eq_true htn
          obtain ⟨b, off, rfl, hbb, hx⟩ := (HCB.out.drewN q).getD (j := t) htn
          by_cases hp : 0 < cur.getD t 0
          · have hd3 : decide (0 < cur.getD t 0) = true := decide_eq_true hp
            have HU2 := Lib.hid (upTo_step HU.out (by rw [HCL.out]; exact htn) hp)
            generalize cur.getD t 0 = y at *
            go_wp2_with fail
            exact ⟨⟨t + 1, q, by first | rfl | exact World.drewN_drewN _ _ _, by omega, by go_num, HU2⟩, by simp [intOf]; omega⟩
          · have hd3 : decide (0 < cur.getD t 0) = false := decide_eq_false hp
            have hft := upTo_stop HU.out (by rw [HCL.out]; exact htn) (by omega)
            have hst := HST.out cur (30 - k) (by rw [hft, HCL.out]; omega)
            have HRC := Lib.hid (HRL.out cur t HCL.out)
            rw [hft, show 30 - k + 1 = 31 - k by omega] at hst
            have hacc := HAC.out
            rw [hst] at hacc
            have HACC := Lib.hid (show (acc ++ [(t : Int)]) ++ frmI m (31 - (k + 1)) (reflL m t cur) = R from by rw [List.append_assoc, List.singleton_append, show 31 - (k + 1) = 30 - k by omega]; exact hacc)
            have HTN := Lib.hid htn
            have heq : ((t : Int) == (nm : Int)) = false := by rw [beq_eq_false_iff_ne]; omega
            clear hacc hst hft hp hbb
            generalize cur.getD t 0 = y at *
            have HMQ := Lib.hid (HM.out.same (SameIn.of_below (below_drewN q) (Nat.le_refl _)))
            have hsq1 : w.heap.size ≤ (wq.drewN q).heap.size := hsq
            have HRLN := Lib.hid (show acc.length ≤ 4194304 from by have := HAL.out; omega)
            have HCQ := Lib.hid (HC.out.step (below_drewN (w := wq) q))
            have HBQ := Lib.hid (HB.out.trans ((below_drewN (w := wq) q).mono hsq))
            go_wp2_with (at_builtin; go_must (refine append_intP HMQ.out hsq1 rfl (t : Int) rfl rfl rfl rfl HRLN.out ?_; intro v6 w6 hr6 hg6 hl6))
            have HC6 := Lib.hid (HCQ.out.grown hg6 hl6)
            have HM6 := Lib.hid hr6
            have HB6 := Lib.hid (HBQ.out.grown hg6 hsq1 (fun j hj => (HMQ.out.1.lt j hj).1))
            clear hr6 hg6 hl6
            have HCALL := Lib.hid (HRF.out t cur _ w6 HB6.out HC6.out.rowB HCL.out HTN.out)
            go_wp2_with fail
            refine HCALL.out.mono ?_
            rintro e w7 ⟨x7, rfl, hx7, hb7⟩
            have hs6 : w.heap.size ≤ w6.heap.size := HB6.out.size
            have HC7 := Lib.hid (CurR.new (o := v6) hx7.1 (by rw [HRC.out]; omega) (Nat.le_refl _) (fun g hg => (HM6.out.1.lt g hg).2))
            have HM7 := Lib.hid (HM6.out.step hb7)
            have HB7 := Lib.hid (HB6.out.trans (hb7.mono hs6))
            have HAL7 := Lib.hid (show (acc ++ [(t : Int)]).length = k + 1 from by rw [List.length_append, HAL.out]; rfl)
            clear hx7 hb7
            go_wp2_with fail
            exact ⟨⟨k + 1, _, _, _, rfl, by omega, by go_num, HM7.out, HC7.out, HRC, HACC, HAL7, HB7.out⟩, by simp [intOf]; omega⟩
        · obtain rfl : t = nm := by omega
          have hd2 : decide (t < t) = false := by simp
          have hft := upTo_end HU.out HCL.out.symm
          have hacc := HAC.out
          rw [HEN.out cur (31 - k) hft, List.append_nil] at hacc
          have HACC := Lib.hid hacc
          have heq : ((t : Int) == (t : Int)) = true := by simp
          clear hacc hft
          have HMQ := Lib.hid (HM.out.same (SameIn.of_below (below_drewN q) (Nat.le_refl _)))
          have HBQ := Lib.hid (HB.out.trans ((below_drewN (w := wq) q).mono hsq))
          go_wp2_with fail
          go_ret
          exact ⟨_, rfl, ⟨by rw [← HACC.out]; exact HMQ.out, Nat.le_refl _⟩, HBQ.out⟩
    · obtain rfl : k = 31 := by omega
      have hacc := HAC.out
      rw [Nat.sub_self, HZ.out, List.append_nil] at hacc
      have HACC := Lib.hid hacc
      clear hacc
      go_wp2_with fail
      go_ret
      exact ⟨_, rfl, ⟨by rw [← HACC.out]; exact HM.out, Nat.le_refl _⟩, HB.out⟩
end Go.Proofs.Ytfjeghalkmkgoaa
