/-
  Lengths: what the model's image of the ones and its greedy word return.
  Words: what the model's CompareWords, EqualWords, SupportOf and AlternatingWord return.
  Lengths: what the model's NormalForm, LengthOf, IsReduced and SignOf return.
-/
import Derived.Test.YtbmghddmilgngaaLc15
import Derived.Test.YtbmghddmilgngaaLc16
import Derived.Deep.QuietTactic
import Derived.BigQuiet
import Derived.Test.YtbmghddmilgngaaLc13
namespace Go.Proofs.Ytbmghddmilgngaa
open Go.RowKit

set_option maxHeartbeats 4000000 in
set_option maxRecDepth 100000 in
theorem img8_any (B B' : Nat) (v v' : Value) (m : List (List Int)) (ws : List Int) (w : World) (h : MatB B w v m) (h' : RowB B' w v' ws) (hB : B ≤ w.heap.size) (hB' : B' ≤ w.heap.size) (hf : RowsFit m) (hI : IsC m) (hW : LetTo m.length ws ws.length) (hw : ws.length ≤ 1048576) :
    Calls Try.prog 46 #[v, v'] w (MakesS w (imgW m ws)) := by
  have HRH := Lib.hid (rhos_any B v m w h hB hf)
  have HRF := Lib.hid (fun (k : Nat) (lx : List Int) (x : Value) (wx : World) (hb : Below w.heap.size w wx) (hx : RowI w.heap.size wx.heap.size wx x lx) (hll : lx.length = m.length) (hk : k < m.length) => l6r_any B wx.heap.size v x m lx k wx (h.below hb hB) hx.rowB (Nat.le_trans hB hb.size) (Nat.le_refl _) hI hll hk)
  have HV := Lib.hid (rhoL_yes hI)
  have HW := Lib.hid h'
  have HLT := Lib.hid hW
  obtain ⟨a, cap, rfl⟩ := h.slice
  obtain ⟨a', cap', rfl⟩ := h'.slice
  clear h h' hf hI hW
  have HON := Lib.hid (show (onesR m.length).length = m.length by simp [onesR])
  have HST := Lib.hid (fun k hk => actW_step (m := m) (ws := ws) (l := onesR m.length) (k := k) hk)
  have HLE := Lib.hid (fun k => (actW_len m (ws.drop k) (onesR m.length)).trans HON.out)
  have H0 := Lib.hid (show actW m (ws.drop 0) (onesR m.length) = imgW m ws from rfl)
  have HNIL := Lib.hid (show actW m (ws.drop ws.length) (onesR m.length) = onesR m.length from by rw [List.drop_length]; rfl)
  generalize imgW m ws = R at *
  generalize rhoL m = rho at *
  generalize hnw : ws.length = nw at *
  generalize hnm : m.length = nm at *
  have HNW := Lib.hid hnw; have HNM := Lib.hid hnm
  clear hnw hnm
  go_enter Try.func46, Try.ntmps46
  go_wp2_with fail
  refine HRH.out.mono ?_
  rintro e w3 ⟨v3, rfl, hr3, hb3⟩
  rw [HV.out] at hr3
  have HR3 := Lib.hid hr3.1
  have HB3 := Lib.hid hb3
  clear hr3 hb3 HRH
  go_wp2_with fail
  go_loopw [5, 6] (fun o i wr => ∃ (k : Nat) (wq : World), wq = wr ∧ k ≤ nw ∧ i = .int .i64 ((k : Int) - 1) ∧ RowI w.heap.size wq.heap.size wq o (actW m (ws.drop k) (onesR nm)) ∧ Below w.heap.size w wq) (fun _ i _ => (intOf i + 1).toNat)
  case atStart => exact ⟨nw, _, rfl, Nat.le_refl _, rfl, by rw [HNIL.out]; exact HR3.out, HB3.out⟩
  case round =>
    obtain ⟨k, wq, rfl, hk, rfl, hM, hb⟩ := hrel
    have HM := Lib.hid hM; clear hM
    have hsq := hb.size
    have HB := Lib.hid hb
    clear hb
    by_cases hlt : 0 < k
    · obtain ⟨j, rfl⟩ : ∃ j, k = j + 1 := ⟨k - 1, by omega⟩
      have e1 : ((j + 1 : Nat) : Int) - 1 = (j : Int) := by omega
      rw [e1]
      clear e1
      have hjw : j < nw := by omega
      have HL1 := Lib.hid (HLT.out j hjw)
      have HS := Lib.hid (HST.out j hjw)
      have HLQ := Lib.hid (HLE.out (j + 1))
      obtain ⟨t, ht⟩ : ∃ t : Nat, ws.getD j 0 = (t : Int) := Int.eq_ofNat_of_zero_le HL1.out.1
      have ht4 : t < nm := by have := HL1.out.2; rw [ht] at this; omega
      have HTN := Lib.hid ht4
      obtain ⟨b, off, rfl, hbB, hc⟩ := (HW.out.below HB.out hB').getD hjw
      rw [ht] at hc
      have HC := Lib.hid (HRF.out t _ _ _ HB.out HM.out HLQ.out HTN.out)
      have htn : (ws.getD j 0).toNat = t := by rw [ht]; rfl
      rw [htn] at HS
      clear ht htn hbB
      rw [HS.out] at HC
      go_wp2_with fail
      refine HC.out.mono ?_
      rintro e w2 ⟨x, rfl, hx, hb2⟩
      have HX := Lib.hid (hx.1.mono HB.out.size (Nat.le_refl _))
      have HB2 := Lib.hid (HB.out.trans (hb2.mono HB.out.size))
      clear hx hb2
      go_wp2_with fail
      exact ⟨⟨j, _, rfl, by omega, rfl, HX.out, HB2.out⟩, by simp [intOf]⟩
    · obtain rfl : k = 0 := by omega
      have hM := HM.out
      rw [H0.out] at hM
      have HM0 := Lib.hid hM
      clear hM
      go_wp2_with fail
      go_ret
      exact ⟨_, rfl, ⟨HM0.out, Nat.le_refl _⟩, HB.out⟩
set_option maxHeartbeats 4000000 in
set_option maxRecDepth 100000 in
theorem frm8_any (B B' : Nat) (v v' : Value) (m : List (List Int)) (l : List Int) (w : World) (h : MatB B w v m) (h' : RowB B' w v' l) (hB : B ≤ w.heap.size) (hB' : B' ≤ w.heap.size) (hI : IsC m) (hll : l.length = m.length) :
    Calls Try.prog 82 #[v, v'] w (MakesS w (frmI m 31 l)) := by
  have HRF := Lib.hid (fun (k : Nat) (lx : List Int) (x : Value) (wx : World) (hb : Below w.heap.size w wx) (hx : RowB wx.heap.size wx x lx) (hll : lx.length = m.length) (hk : k < m.length) => l6r_any B wx.heap.size v x m lx k wx (h.below hb hB) hx (Nat.le_trans hB hb.size) (Nat.le_refl _) hI hll hk)
  have hn1 := hI.2.2.1
  have hn4 := hI.2.2.2
  have hb0 : Below w.heap.size w (w.alloc (.cells #[] 3)) := (Below.refl _ _).alloc (Nat.le_refl _) _
  have HB0 := Lib.hid hb0
  have HC0 := Lib.hid (show CurR (w.alloc (.cells #[] 3)) (.slice (some ⟨w.heap.size, 0, none⟩) 0 0) v' l from CurR.of (h'.below hb0 hB') (by omega) (Nat.le_trans hB' hb0.size) (fun g hg => by have : w.heap.size = g := by simpa [Value.ownBlock] using hg
                                                                                                                                                                                                 omega))
  have HRL := Lib.hid (fun (lx : List Int) (i : Nat) (hx : lx.length = m.length) => (reflL_len m i lx).trans hx)
  have HH := Lib.hid (fun (wx : World) (x : Value) (hx : RowB wx.heap.size wx x l) => trivial)
  have HST := Lib.hid (fun (lx : List Int) (r : Nat) (h : firstDown lx ≠ lx.length) => frmI_step (m := m) (k := r) h)
  have HEN := Lib.hid (fun (lx : List Int) (r : Nat) (h : firstDown lx = lx.length) => frmI_end (m := m) (k := r) h)
  have HZ := Lib.hid (frmI_zero m)
  obtain ⟨a, cap, rfl⟩ := h.slice
  obtain ⟨a', cap', rfl⟩ := h'.slice
  clear h h' hI hb0 HH
  have HLL := Lib.hid hll
  rw [hll] at HC0 ⊢
  generalize hR : frmI m 31 l = R at *
  have HRE := Lib.hid hR; clear hR
  generalize hnm : m.length = nm at *
  clear hnm hll
  go_enter Try.func82, Try.ntmps82
  go_wp2_with fail
  go_loopw [1, 5, 6] (fun x o n wr => ∃ (k : Nat) (acc cur : List Int) (wq : World), wq = wr ∧ k ≤ 31 ∧ n = .int .i64 k ∧ RowI w.heap.size wq.heap.size wq o acc ∧ CurR wq o x cur ∧ Hid (cur.length = nm) ∧ Hid (acc ++ frmI m (31 - k) cur = R) ∧ Hid (acc.length = k) ∧ Below w.heap.size w wq) (fun _ _ n _ => 31 - (intOf n).toNat)
  case atStart => exact ⟨0, [], l, _, rfl, Nat.zero_le _, rfl, row_empty w, HC0.out, HLL, Lib.hid (show frmI m (31 - 0) l = R from HRE.out), Lib.hid rfl, HB0.out⟩
  case round =>
    obtain ⟨k, acc, cur, wq, rfl, hk, rfl, hM, hC, HCL, HAC, HAL, hb⟩ := hrel
    have HM := Lib.hid hM
    have HB := Lib.hid hb
    have HC := Lib.hid hC
    have hsq := hb.size
    have hCB := hC.rowB
    obtain ⟨xa, xcap, rfl⟩ := hC.slice
    have HCB := Lib.hid hCB
    clear hM hb hC hCB
    rw [HCL.out] at HC HCB ⊢
    by_cases hk30 : k ≤ 30
    · have hd : decide ((k : Int) ≤ 30) = true := decide_eq_true (by omega)
      go_wp2_with fail
      go_loopw [7] (fun i wr => ∃ (t q : Nat), wr = wq.drewN q ∧ t ≤ nm ∧ i = .int .i64 t ∧ Hid (UpTo cur t)) (fun i _ => nm - (intOf i).toNat)
      case atStart => exact ⟨0, 0, rfl, Nat.zero_le _, rfl, Lib.hid (Nat.zero_le _)⟩
      case round =>
        obtain ⟨t, q, rfl, ht, rfl, HU⟩ := hrel
        by_cases htn : t < nm
        · have hd2 : decide (t < nm) = true := decide_eq_true htn
          obtain ⟨b, off, rfl, hbb, hx⟩ := (HCB.out.drewN q).getD (j := t) htn
          by_cases hp : 0 < cur.getD t 0
          · have hd3 : decide (0 < cur.getD t 0) = true := decide_eq_true hp
            have HU2 := Lib.hid (upTo_step HU.out (by rw [HCL.out]; exact htn) hp)
            generalize cur.getD t 0 = y at *
            go_wp2_with fail
            exact ⟨⟨t + 1, q, by first | rfl | exact World.drewN_drewN _ _ _, by omega, by go_num, HU2⟩, by simp [intOf]; omega⟩
          · have hd3 : decide (0 < cur.getD t 0) = false := decide_eq_false hp
            have hft := upTo_stop HU.out (by rw [HCL.out]; exact htn) (by omega)
            have hst := HST.out cur (30 - k) (by rw [hft, HCL.out]; omega)
            have HRC := Lib.hid (HRL.out cur t HCL.out)
            rw [hft, show 30 - k + 1 = 31 - k by omega] at hst
            have hacc := HAC.out
            rw [hst] at hacc
            have HACC := Lib.hid (show (acc ++ [(t : Int)]) ++ frmI m (31 - (k + 1)) (reflL m t cur) = R from by rw [List.append_assoc, List.singleton_append, show 31 - (k + 1) = 30 - k by omega]; exact hacc)
            have HTN := Lib.hid htn
            have heq : ((t : Int) == (nm : Int)) = false := by rw [beq_eq_false_iff_ne]; omega
            clear hacc hst hft hp hbb
            generalize cur.getD t 0 = y at *
            have HMQ := Lib.hid (HM.out.same (SameIn.of_below (below_drewN q) (Nat.le_refl _)))
            have hsq1 : w.heap.size ≤ (wq.drewN q).heap.size := hsq
            have HRLN := Lib.hid (show acc.length ≤ 4194304 from by have := HAL.out; omega)
            have HCQ := Lib.hid (HC.out.step (below_drewN (w := wq) q))
            have HBQ := Lib.hid (HB.out.trans ((below_drewN (w := wq) q).mono hsq))
            go_wp2_with (at_builtin; go_must (refine append_intP HMQ.out hsq1 rfl (t : Int) rfl rfl rfl rfl HRLN.out ?_; intro v6 w6 hr6 hg6 hl6))
            have HC6 := Lib.hid (HCQ.out.grown hg6 hl6)
            have HM6 := Lib.hid hr6
            have HB6 := Lib.hid (HBQ.out.grown hg6 hsq1 (fun j hj => (HMQ.out.1.lt j hj).1))
            clear hr6 hg6 hl6
            have HCALL := Lib.hid (HRF.out t cur _ w6 HB6.out HC6.out.rowB HCL.out HTN.out)
            go_wp2_with fail
            refine HCALL.out.mono ?_
            rintro e w7 ⟨x7, rfl, hx7, hb7⟩
            have hs6 : w.heap.size ≤ w6.heap.size := HB6.out.size
            have HC7 := Lib.hid (CurR.new (o := v6) hx7.1 (by rw [HRC.out]; omega) (Nat.le_refl _) (fun g hg => (HM6.out.1.lt g hg).2))
            have HM7 := Lib.hid (HM6.out.step hb7)
            have HB7 := Lib.hid (HB6.out.trans (hb7.mono hs6))
            have HAL7 := Lib.hid (show (acc ++ [(t : Int)]).length = k + 1 from by rw [List.length_append, HAL.out]; rfl)
            clear hx7 hb7
            go_wp2_with fail
            exact ⟨⟨k + 1, _, _, _, rfl, by omega, by go_num, HM7.out, HC7.out, HRC, HACC, HAL7, HB7.out⟩, by simp [intOf]; omega⟩
        · obtain rfl : t = nm := by omega
          have hd2 : decide (t < t) = false := by simp
          have hft := upTo_end HU.out HCL.out.symm
          have hacc := HAC.out
          rw [HEN.out cur (31 - k) hft, List.append_nil] at hacc
          have HACC := Lib.hid hacc
          have heq : ((t : Int) == (t : Int)) = true := by simp
          clear hacc hft
          have HMQ := Lib.hid (HM.out.same (SameIn.of_below (below_drewN q) (Nat.le_refl _)))
          have HBQ := Lib.hid (HB.out.trans ((below_drewN (w := wq) q).mono hsq))
          go_wp2_with fail
          go_ret
          exact ⟨_, rfl, ⟨by rw [← HACC.out]; exact HMQ.out, Nat.le_refl _⟩, HBQ.out⟩
    · obtain rfl : k = 31 := by omega
      have hacc := HAC.out
      rw [Nat.sub_self, HZ.out, List.append_nil] at hacc
      have HACC := Lib.hid hacc
      clear hacc
      go_wp2_with fail
      go_ret
      exact ⟨_, rfl, ⟨by rw [← HACC.out]; exact HM.out, Nat.le_refl _⟩, HB.out⟩
end Go.Proofs.Ytbmghddmilgngaa
namespace Go.Proofs.Ytbmghddmilgngaa
open Go.RowKit

theorem ret_i64 {a b : Int} (h : a = b) : Ending.returned (.int .i64 a) = .returned (.int .i64 b) := by rw [h]
set_option maxHeartbeats 2000000 in
set_option maxRecDepth 100000 in
theorem cmps_any (B : Nat) (v v' : Value) (l l' : List Int) (w : World) (h : RowB B w v l) (h' : RowB B w v' l') (hl : l.length ≤ maxLen) (hl' : l'.length ≤ maxLen) :
    Calls Try.prog 72 #[v, v'] w fun e w' => e = .returned (.int .i64 (cmpW l l')) ∧ ∃ q, w' = w.drewN q := by
  obtain ⟨a, cap, rfl⟩ := h.slice
  obtain ⟨a', cap', rfl⟩ := h'.slice
  have HL := Lib.hid h; have HL' := Lib.hid h'
  clear h h'
  unfold maxLen at hl hl'
  have HLT := Lib.hid (fun (h : l.length < l'.length) => cmpW_lt h)
  have HGT := Lib.hid (fun (h : l'.length < l.length) => cmpW_gt h)
  have HAT := Lib.hid (fun k (hl : l.length = l'.length) (hk : k < l.length) (he : l.take k = l'.take k) (hne : l.getD k 0 ≠ l'.getD k 0) => cmpW_at hl hk he hne)
  have HEQ := Lib.hid (fun (h : l = l') => show cmpW l l' = 0 from cmpW_zero.2 h)
  have HTK := Lib.hid (fun k (hk : k < l.length) (hk' : k < l'.length) (he : l.take k = l'.take k) (hx : l.getD k 0 = l'.getD k 0) => show l.take (k + 1) = l'.take (k + 1) from by
    rw [List.take_succ_eq_append_getElem hk, List.take_succ_eq_append_getElem hk', he]
    simp [List.getD, hk, hk'] at hx
    rw [hx])
  have HFU := Lib.hid (fun (h1 : l.length = l'.length) (he : l.take l.length = l'.take l.length) => show l = l' from by
    rw [List.take_length, h1, List.take_length] at he; exact he)
  generalize cmpW l l' = R at *
  generalize hn : l.length = n at *
  generalize hn' : l'.length = n' at *
  have HN := Lib.hid hn; have HN' := Lib.hid hn'
  clear hn hn'
  rcases Nat.lt_trichotomy n n' with hlt | heq | hgt
  · have HV := Lib.hid (HLT.out hlt)
    have hne : ((n : Int) != (n' : Int)) = true := by rw [bne_iff_ne]; omega
    have hd : decide (n < n') = true := decide_eq_true hlt
    clear HLT HGT HAT HEQ HTK HFU hlt
    go_enter Try.func72, Try.ntmps72
    go_wp2_with fail
    go_ret
    exact ⟨ret_i64 HV.out.symm, 0, rfl⟩
  · subst heq
    go_enter Try.func72, Try.ntmps72
    go_wp2_with fail
    go_loopw [5] (fun i wr => ∃ (k q : Nat), k ≤ n ∧ i = .int .i64 k ∧ wr = w.drewN q ∧ Hid (l.take k = l'.take k)) (fun i _ => n - (intOf i).toNat)
    case atStart => exact ⟨0, 0, Nat.zero_le _, rfl, rfl, Lib.hid rfl⟩
    case round =>
      obtain ⟨k, q, hk, rfl, rfl, hp⟩ := hrel
      by_cases hlt : k < n
      · obtain ⟨b, off, rfl, hb, hc⟩ := HL.out.getD hlt
        obtain ⟨b', off', rfl, hb', hc'⟩ := HL'.out.getD hlt
        have HV := Lib.hid (fun h => HAT.out k (by first | rfl | trivial) hlt hp.out h)
        have HS := Lib.hid (fun h => HTK.out k hlt hlt hp.out h)
        clear HLT HGT HAT HEQ HTK HFU
        generalize l.getD k 0 = x at *
        generalize l'.getD k 0 = y at *
        by_cases hxy : x < y
        · have hd : decide (x < y) = true := decide_eq_true hxy
          have HV2 := Lib.hid ((HV.out (by omega)).trans (if_pos hxy))
          clear HV HS hxy
          go_wp2_with fail
          go_quiet (fail)
          go_wp2_with fail
          go_ret
          exact ⟨ret_i64 HV2.out.symm, q + nq, World.drewN_drewN _ _ _⟩
        · have hd : decide (x < y) = false := decide_eq_false hxy
          by_cases hyx : y < x
          · have hd2 : decide (y < x) = true := decide_eq_true hyx
            have HV2 := Lib.hid ((HV.out (by omega)).trans (if_neg hxy))
            clear HV HS hxy hyx
            go_wp2_with fail
            go_quiet (fail)
            go_wp2_with fail
            go_quiet (fail)
            go_wp2_with fail
            go_ret
            exact ⟨ret_i64 HV2.out.symm, _, by rw [World.drewN_drewN, World.drewN_drewN]⟩
          · have hd2 : decide (y < x) = false := decide_eq_false hyx
            have HS2 := Lib.hid (HS.out (by omega))
            clear HV HS hxy hyx
            go_wp2_with fail
            go_quiet (fail)
            go_wp2_with fail
            go_quiet (fail)
            go_wp2_with fail
            exact ⟨⟨k + 1, _, by omega, by go_num, rfl, HS2⟩, by simp [intOf]; omega⟩
      · obtain rfl : k = n := by omega
        have HV := Lib.hid (HEQ.out (HFU.out (by first | rfl | trivial) hp.out))
        clear HLT HGT HAT HEQ HTK HFU
        go_wp2_with fail
        go_ret
        exact ⟨ret_i64 HV.out.symm, q, rfl⟩
  · have HV := Lib.hid (HGT.out hgt)
    have hne : ((n : Int) != (n' : Int)) = true := by rw [bne_iff_ne]; omega
    have hd : decide (n < n') = false := decide_eq_false (by omega)
    clear HLT HGT HAT HEQ HTK HFU hgt
    go_enter Try.func72, Try.ntmps72
    go_wp2_with fail
    go_ret
    exact ⟨ret_i64 HV.out.symm, 0, rfl⟩
def eqwB (l l' : List Int) : Bool := decide (cmpW l l' = 0)
set_option maxRecDepth 100000 in
theorem eqws_any (B : Nat) (v v' : Value) (l l' : List Int) (w : World) (h : RowB B w v l) (h' : RowB B w v' l') (hl : l.length ≤ maxLen) (hl' : l'.length ≤ maxLen) :
    Calls Try.prog 47 #[v, v'] w fun e w' => e = .returned (.bool (eqwB l l')) ∧ ∃ q, w' = w.drewN q := by
  have HC := Lib.hid (cmps_any B v v' l l' w h h' hl hl')
  have HE := Lib.hid (show (cmpW l l' == 0) = eqwB l l' from rfl)
  clear h h' hl hl'
  generalize cmpW l l' = c at *
  go_enter Try.func47, Try.ntmps47
  go_wp2_with fail
  refine HC.out.mono ?_
  rintro e w' ⟨rfl, q, rfl⟩
  go_wp2_with fail
  go_ret
  exact ⟨ret_boolean HE.out, q, rfl⟩

end Go.Proofs.Ytbmghddmilgngaa
namespace Go.Proofs.Ytbmghddmilgngaa
open Go.RowKit

set_option maxHeartbeats 4000000 in
set_option maxRecDepth 100000 in
theorem nrm8_any (B B' : Nat) (v v' : Value) (m : List (List Int)) (ws : List Int) (w : World) (h : MatB B w v m) (h' : RowB B' w v' ws) (hB : B ≤ w.heap.size) (hB' : B' ≤ w.heap.size) (hf : RowsFit m) (hI : IsC m) (hW : LetTo m.length ws ws.length) (hw : ws.length ≤ 1048576) :
    Calls Try.prog 66 #[v, v'] w (MakesS w (frmI m 31 (imgW m ws))) := by
  have HIM := Lib.hid (img8_any B B' v v' m ws w h h' hB hB' hf hI hW hw)
  have HFM := Lib.hid (fun (x : Value) (wx : World) (hb : Below w.heap.size w wx) (hx : RowB wx.heap.size wx x (imgW m ws)) => frm8_any B wx.heap.size v x m (imgW m ws) wx (h.below hb hB) hx (Nat.le_trans hB hb.size) (Nat.le_refl _) hI (imgW_len m ws))
  clear h h' hf hI hW
  generalize imgW m ws = im at *
  generalize frmI m 31 im = R at *
  go_enter Try.func66, Try.ntmps66
  go_wp2_with fail
  refine HIM.out.mono ?_
  rintro e w1 ⟨x, rfl, hx, hb1⟩
  have HB1 := Lib.hid hb1
  have HC := Lib.hid (HFM.out x w1 hb1 hx.1.rowB)
  clear hx hb1
  go_wp2_with fail
  refine HC.out.mono ?_
  rintro e w2 ⟨y, rfl, hy, hb2⟩
  have HY := Lib.hid (hy.1.mono HB1.out.size (Nat.le_refl _))
  have HB2 := Lib.hid (HB1.out.trans (hb2.mono HB1.out.size))
  clear hy hb2
  go_wp2_with fail
  go_ret
  exact ⟨_, rfl, ⟨HY.out, Nat.le_refl _⟩, HB2.out⟩
set_option maxHeartbeats 4000000 in
set_option maxRecDepth 100000 in
theorem nrms_any (B B' : Nat) (v v' : Value) (m : List (List Int)) (ws : List Int) (w : World) (h : MatB B w v m) (h' : RowB B' w v' ws) (hB : B ≤ w.heap.size) (hB' : B' ≤ w.heap.size) (hf : RowsFit m) (hw : ws.length ≤ 1048576) :
    Calls Try.prog 73 #[v, v'] w (MakesS2 w (nrmL m ws) (.bool (wordB m ws))) := by
  have HIW := Lib.hid (isws_any B B' v v' m ws w h h' hf (by unfold maxLen; omega))
  by_cases hW : IsW m ws
  · have HV := Lib.hid (nrmL_yes hW)
    have HB := Lib.hid (wordB_yes hW)
    have HNR := Lib.hid (fun (wx : World) (hb : Below w.heap.size w wx) => nrm8_any B B' v v' m ws wx (h.below hb hB) (h'.below hb hB') (Nat.le_trans hB hb.size) (Nat.le_trans hB' hb.size) hf hW.2.1 hW.1 hw)
    rw [HB.out] at HIW ⊢
    clear h h' hf hW HB
    generalize nrmL m ws = R at *
    rw [← HV.out] at HNR
    clear HV
    go_enter Try.func73, Try.ntmps73
    go_wp2_with fail
    refine HIW.out.mono ?_
    rintro e w1 ⟨rfl, q, rfl⟩
    have HB1 := Lib.hid (below_drewN (w := w) q)
    have HC := Lib.hid (HNR.out _ HB1.out)
    clear HIW HNR
    go_wp2_with fail
    refine HC.out.mono ?_
    rintro e w2 ⟨y, rfl, hy, hb2⟩
    have HY := Lib.hid (hy.1.mono HB1.out.size (Nat.le_refl _))
    have HB2 := Lib.hid (HB1.out.trans (hb2.mono HB1.out.size))
    clear hy hb2
    go_wp2_with fail
    go_ret2
    exact ⟨_, rfl, ⟨HY.out, Nat.le_refl _⟩, HB2.out⟩
  · have HV := Lib.hid (nrmL_no hW)
    have HB := Lib.hid (wordB_no hW)
    rw [HB.out] at HIW ⊢
    rw [HV.out]
    clear h h' hf hW HB HV
    go_enter Try.func73, Try.ntmps73
    go_wp2_with fail
    refine HIW.out.mono ?_
    rintro e w1 ⟨rfl, q, rfl⟩
    have HB1 := Lib.hid (below_drewN (w := w) q)
    clear HIW
    go_wp2_with fail
    go_ret2
    exact ⟨_, rfl, ⟨(row_empty (w.drewN q)).mono HB1.out.size (Nat.le_refl _), Nat.le_refl _⟩, HB1.out.alloc HB1.out.size _⟩
noncomputable def lenI (m : List (List Int)) (ws : List Int) : Int := if wordB m ws = true then ((nrmL m ws).length : Int) else -1
set_option maxHeartbeats 4000000 in
set_option maxRecDepth 100000 in
theorem lens_any (B B' : Nat) (v v' : Value) (m : List (List Int)) (ws : List Int) (w : World) (h : MatB B w v m) (h' : RowB B' w v' ws) (hB : B ≤ w.heap.size) (hB' : B' ≤ w.heap.size) (hf : RowsFit m) (hw : ws.length ≤ 1048576) :
    Calls Try.prog 48 #[v, v'] w fun e w' => e = .returned (.int .i64 (lenI m ws)) ∧ Below w.heap.size w w' := by
  have HN := Lib.hid (nrms_any B B' v v' m ws w h h' hB hB' hf hw)
  have HV := Lib.hid (show lenI m ws = if wordB m ws = true then ((nrmL m ws).length : Int) else -1 from rfl)
  clear h h' hf
  generalize lenI m ws = R at *
  generalize nrmL m ws = nl at *
  generalize wordB m ws = wb at *
  cases wb with
  | true =>
    have hv := HV.out
    rw [if_pos rfl] at hv
    subst hv
    go_enter Try.func48, Try.ntmps48
    go_wp2_with fail
    refine HN.out.mono ?_
    rintro e w1 ⟨x, rfl, hx, hb1⟩
    have HB1 := Lib.hid hb1
    obtain ⟨xa, xcap, rfl⟩ := hx.1.slice
    clear hx hb1
    go_wp2_with fail
    go_ret
    exact ⟨rfl, HB1.out⟩
  | false =>
    have hv := HV.out
    rw [if_neg (by simp)] at hv
    subst hv
    go_enter Try.func48, Try.ntmps48
    go_wp2_with fail
    refine HN.out.mono ?_
    rintro e w1 ⟨x, rfl, hx, hb1⟩
    have HB1 := Lib.hid hb1
    obtain ⟨xa, xcap, rfl⟩ := hx.1.slice
    clear hx hb1
    go_wp2_with fail
    go_ret
    exact ⟨rfl, HB1.out⟩
set_option maxHeartbeats 4000000 in
set_option maxRecDepth 100000 in
theorem isrd_any (B B' : Nat) (v v' : Value) (m : List (List Int)) (ws : List Int) (w : World) (h : MatB B w v m) (h' : RowB B' w v' ws) (hB : B ≤ w.heap.size) (hB' : B' ≤ w.heap.size) (hf : RowsFit m) (hw : ws.length ≤ 1048576) :
    Calls Try.prog 13 #[v, v'] w fun e w' => e = .returned (.bool (lenI m ws == (ws.length : Int))) ∧ Below w.heap.size w w' := by
  have HN := Lib.hid (lens_any B B' v v' m ws w h h' hB hB' hf hw)
  obtain ⟨a', cap', rfl⟩ := h'.slice
  clear h h' hf
  generalize lenI m ws = R at *
  generalize ws.length = n at *
  go_enter Try.func13, Try.ntmps13
  go_wp2_with fail
  refine HN.out.mono ?_
  rintro e w1 ⟨rfl, hb1⟩
  have HB1 := Lib.hid hb1
  clear hb1
  go_wp2_with fail
  go_ret
  exact ⟨rfl, HB1.out⟩
end Go.Proofs.Ytbmghddmilgngaa
