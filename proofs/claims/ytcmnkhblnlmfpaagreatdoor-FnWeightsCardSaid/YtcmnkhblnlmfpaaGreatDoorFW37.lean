/-
  Weights: what the program's ReflectWeight, AddWeights and SimpleRootWeight return.
  Weights: what the program's RhoOf returns, by the library's Repeat at a list of one number.
-/
import Derived.Deep.QuietTactic
import Derived.Test.YtcmnkhblnlmfpaaGreatDoorFW16
import Derived.Test.YtcmnkhblnlmfpaaGreatDoorFW36
import Derived.Test.YtcmnkhblnlmfpaaGreatDoorFW06
import Derived.Test.YtcmnkhblnlmfpaaGreatDoorFW15
import Derived.Laws.CopyOwn
namespace Go.Proofs.YtcmnkhblnlmfpaaGreatDoor
open Go.RowKit

theorem row_whole6 (w : World) (l : List Int) (h : l.length ≤ 1048576) : RowI w.heap.size (w.alloc (.cells (intsV l).toArray 3)).heap.size (w.alloc (.cells (intsV l).toArray 3)) (.slice (some ⟨w.heap.size, 0, none⟩) l.length l.length) l := by
  refine ⟨World.ownsRow_lit (base := w.heap.size) (e := 3) (size := 1) w (intsV l).toArray l.length (Nat.le_refl _) (by unfold maxLen; omega) (by simp [intsV]), fun g hg => ?_⟩
  have : w.heap.size = g := by simpa [Value.ownBlock] using hg
  simp; omega
set_option maxHeartbeats 4000000 in
set_option maxRecDepth 100000 in
theorem refi_any (B B' : Nat) (v v' : Value) (m : List (List Int)) (l : List Int) (i : Int) (w : World) (h : MatB B w v m) (h' : RowB B' w v' l) (hB : B ≤ w.heap.size) (hB' : B' ≤ w.heap.size) (hf : RowsFit m) (hl : l.length ≤ 1048576) :
    Calls Tryz.prog 7 #[v, .int .i64 i, v'] w (MakesS w (refwL m i l)) := by
  have HCL := Lib.hid (cloi_any B' v' l w h' hB' hl)
  have HIS := Lib.hid (fun c (hc : isB m = c) (wx : World) (hb : Below w.heap.size w wx) => icm_0 B v m c hc wx (h.below hb hB) hf)
  have HRP := Lib.hid (fun (x : Value) (k : Nat) (wx : World) (hb : Below w.heap.size w wx) (hx : RowI w.heap.size wx.heap.size wx x l) (hI : IsC m) (hll : l.length = m.length) (hk : k < m.length) => rip_any w.heap.size B v x m l k wx (h.below hb hB) hx hB hI.1 hll hk (by have := hI.2.2.2; omega))
  obtain ⟨a, cap, rfl⟩ := h.slice
  obtain ⟨a', cap', rfl⟩ := h'.slice
  have hlm := hf.1
  unfold maxLen at hlm
  have HPT := Lib.hid (fun (c : Bool) (hc : ptB i m.length = c) (wx : World) => pt_c a m.length cap i c hc wx (by omega))
  clear h h' hf
  go_enter Tryz.func7, Tryz.ntmps7
  go_wp2_with fail
  refine HCL.out.mono ?_
  rintro e w1 ⟨x, rfl, ⟨hx, _⟩, hb⟩
  have HX := Lib.hid hx
  have HB := Lib.hid hb
  clear hx hb HCL
  by_cases hI : IsC m
  · have HC := Lib.hid (HIS.out true (isB_yes hI) w1 HB.out)
    by_cases hll : l.length = m.length
    · have heq : ((l.length : Int) == (m.length : Int)) = true := by rw [beq_iff_eq]; omega
      by_cases hi : 0 ≤ i ∧ i ≤ (m.length : Int) - 1
      · have HV := Lib.hid (refwL_yes (m := m) (i := i) (l := l) ⟨hI, hll, hi⟩)
        have HP := Lib.hid (HPT.out true (ptB_yes hi))
        obtain ⟨k, rfl⟩ := Int.eq_ofNat_of_zero_le hi.1
        have HRP2 := Lib.hid (fun (q : Nat) => HRP.out x k (w1.drewN q) (HB.out.trans ((below_drewN q).mono HB.out.size)) (HX.out.step (below_drewN q)) hI hll (by omega))
        simp only [Int.toNat_natCast] at HV
        clear HRP HPT HIS hI hi hll
        generalize reflL m k l = R at *
        generalize m.length = n at *
        generalize l.length = n' at *
        go_wp2_with fail
        refine HC.out.mono ?_
        rintro e w2 ⟨rfl, q, rfl⟩
        go_wp2_with fail
        refine (HP.out _).mono ?_
        rintro e w3 ⟨rfl, rfl⟩
        go_wp2_with fail
        refine (HRP2.out q).mono ?_
        rintro e w4 ⟨rfl, h1, h2, h3⟩
        have HR := Lib.hid h1
        have HB4 := Lib.hid (show Below w.heap.size w w4 from (HB.out.trans ((below_drewN q).mono HB.out.size)).grown h2 (by have := HB.out.size; simpa using this) (fun j hj => (HX.out.1.lt j hj).1))
        clear h1 h2 h3 HRP2 HX
        go_wp2_with fail
        go_ret
        exact ⟨_, rfl, ⟨by rw [HV.out]; exact HR.out, Nat.le_refl _⟩, HB4.out⟩
      · have HV := Lib.hid (refwL_no (m := m) (i := i) (l := l) (fun h => hi h.2.2))
        have HP := Lib.hid (HPT.out false (ptB_no hi))
        clear HRP HPT HIS hI hi hll
        generalize m.length = n at *
        generalize l.length = n' at *
        go_wp2_with fail
        refine HC.out.mono ?_
        rintro e w2 ⟨rfl, q, rfl⟩
        go_wp2_with fail
        refine (HP.out _).mono ?_
        rintro e w3 ⟨rfl, rfl⟩
        go_wp2_with fail
        go_ret
        exact ⟨_, rfl, ⟨by rw [HV.out]; exact HX.out.step (below_drewN q), Nat.le_refl _⟩, HB.out.trans ((below_drewN q).mono HB.out.size)⟩
    · have heq : ((l.length : Int) == (m.length : Int)) = false := by rw [beq_eq_false_iff_ne]; omega
      have HV := Lib.hid (refwL_no (m := m) (i := i) (l := l) (fun h => hll h.2.1))
      clear HRP HPT HIS hI hll
      generalize m.length = n at *
      generalize l.length = n' at *
      go_wp2_with fail
      refine HC.out.mono ?_
      rintro e w2 ⟨rfl, q, rfl⟩
      go_wp2_with fail
      go_ret
      exact ⟨_, rfl, ⟨by rw [HV.out]; exact HX.out.step (below_drewN q), Nat.le_refl _⟩, HB.out.trans ((below_drewN q).mono HB.out.size)⟩
  · have HC := Lib.hid (HIS.out false (isB_no hI) w1 HB.out)
    have HV := Lib.hid (refwL_no (m := m) (i := i) (l := l) (fun h => hI h.1))
    clear HRP HPT HIS hI
    generalize m.length = n at *
    generalize l.length = n' at *
    go_wp2_with fail
    refine HC.out.mono ?_
    rintro e w2 ⟨rfl, q, rfl⟩
    go_wp2_with fail
    go_ret
    exact ⟨_, rfl, ⟨by rw [HV.out]; exact HX.out.step (below_drewN q), Nat.le_refl _⟩, HB.out.trans ((below_drewN q).mono HB.out.size)⟩

/-! ### Lists filled from the front -/
def filS (l : List Int) (k : Nat) : List Int := l.take k ++ List.replicate (l.length - k) 0
theorem filS_zero (l : List Int) : filS l 0 = zerosR l.length := by simp [filS, zerosR]
theorem filS_len (l : List Int) (k : Nat) (h : k ≤ l.length) : (filS l k).length = l.length := by simp [filS]; omega
theorem filS_end (l : List Int) : filS l l.length = l := by simp [filS]
theorem filS_set (l : List Int) (k : Nat) (h : k < l.length) : (filS l k).set k (l.getD k 0) = filS l (k + 1) := by
  have e : l.length - k = (l.length - (k + 1)) + 1 := by omega
  have ht : (l.take k).length = k := by rw [List.length_take]; omega
  have hg : l.getD k 0 = l[k] := by simp [List.getD, h]
  unfold filS
  rw [e, List.replicate_succ, List.set_append_right _ _ (by omega), ht, Nat.sub_self, List.set_cons_zero, List.take_succ_eq_append_getElem h, List.append_assoc, hg]
  rfl
set_option maxHeartbeats 4000000 in
set_option maxRecDepth 100000 in
theorem addi_any (B B' : Nat) (v v' : Value) (l l' : List Int) (w : World) (h : RowB B w v l) (h' : RowB B' w v' l') (hB : B ≤ w.heap.size) (hB' : B' ≤ w.heap.size) (hl : l.length ≤ 1048576) (hl' : l'.length ≤ 1048576) :
    Calls Tryz.prog 26 #[v, v'] w (MakesS w (addL l l')) := by
  obtain ⟨a, cap, rfl⟩ := h.slice
  obtain ⟨a', cap', rfl⟩ := h'.slice
  have HL := Lib.hid h; have HL' := Lib.hid h'
  clear h h'
  obtain ⟨N, hN⟩ : ∃ N : Nat, N = min l.length l'.length := ⟨_, rfl⟩
  have hRL : (addL l l').length = N := by unfold addL; rw [addK_len]; exact hN.symm
  have hmin : min (l.length : Int) (l'.length : Int) = (N : Int) := by omega
  have hN1 : N ≤ l.length := by omega
  have hN2 : N ≤ l'.length := by omega
  have HRL := Lib.hid hRL
  have HGET := Lib.hid (fun k (hk : k < N) => show (addL l l').getD k 0 = addW (l.getD k 0) (l'.getD k 0) from by
    have h0 : k < min l.length l'.length := by omega
    unfold addL addK
    simp [List.getD, List.getElem?_range h0])
  have HSET := Lib.hid (fun k (hk : k < N) => filS_set (addL l l') k (by omega))
  have HLN := Lib.hid (fun k (hk : k ≤ N) => (filS_len (addL l l') k (by omega)).trans hRL)
  have HEND := Lib.hid (filS_end (addL l l'))
  have hmk := makeInts N (by omega) w
  have h1 := row_whole6 w (zerosR N) (by rw [zerosR_len]; omega)
  rw [zerosR_len] at h1
  have h2 : filS (addL l l') 0 = zerosR N := by rw [filS_zero, hRL]
  rw [← h2] at hmk h1
  rw [hRL] at HEND
  have H1 := Lib.hid (show (w.alloc (.cells (intsV (filS (addL l l') 0)).toArray 3)).ownsRow w.heap.size 3 1 (.slice (some ⟨w.heap.size, 0, none⟩) N N) N (intsV (filS (addL l l') 0)) from by
    have h3 := h1.1
    rw [HLN.out 0 (by omega)] at h3
    exact h3)
  clear h1 h2 hRL hN
  generalize addL l l' = R at *
  generalize hn : l.length = n at *
  generalize hn' : l'.length = n' at *
  have HN := Lib.hid hn; have HN' := Lib.hid hn'
  clear hn hn'
  rcases (show (n' < n ∧ N = n') ∨ (¬ n' < n ∧ N = n) by omega) with ⟨hc, rfl⟩ | ⟨hc, rfl⟩
  all_goals
    go_enter Tryz.func26, Tryz.ntmps26
    go_wp2_with fail
    clear hmk hmin
    go_loopw [15] (fun i' wr => ∃ (k : Nat) (wq : World), wq = wr ∧ k ≤ N ∧ i' = .int .i64 k ∧ wq.ownsRow w.heap.size 3 1 (.slice (some ⟨w.heap.size, 0, none⟩) N N) N (intsV (filS R k)) ∧ Below w.heap.size w wq ∧ w.heap.size < wq.heap.size) (fun i' _ => N - (intOf i').toNat)
    case atStart => exact ⟨0, _, rfl, Nat.zero_le _, rfl, H1.out, (Below.refl _ _).alloc (Nat.le_refl _) _, by simp⟩
    case round =>
      obtain ⟨k, wq, rfl, hk, rfl, hown, hb, hsz⟩ := hrel
      have HO := Lib.hid hown; have HB := Lib.hid hb
      by_cases hlt : k < N
      · have hcell : ∃ c, wq.cell? ⟨w.heap.size, k, none⟩ = some c := ⟨_, (hown.cellAt k (by omega)).trans (List.getElem?_eq_getElem (by rw [intsV_len, HLN.out k hk]; exact hlt))⟩
        obtain ⟨c, hcell⟩ := hcell
        have hfz : wq.frozen? ⟨w.heap.size, k, none⟩ = false := hown.frozenAt k
        obtain ⟨b, off, rfl, _, hx⟩ := (HL.out.below hb hB).getD (j := k) (by omega)
        obtain ⟨b', off', rfl, _, hy⟩ := (HL'.out.below hb hB').getD (j := k) (by omega)
        obtain ⟨hst, hgs⟩ := hown.stored k (.int .i64 (R.getD k 0))
        rw [intsV_set, HSET.out k hlt] at hst
        have HST := Lib.hid hst
        have HBS := Lib.hid (hb.setCell (p := ⟨w.heap.size, k, none⟩) (Nat.le_refl _) (.int .i64 (R.getD k 0)))
        have HE := Lib.hid (HGET.out k hlt)
        clear hst hgs hown hb
        generalize R.getD k 0 = E at *
        generalize l.getD k 0 = x at *
        generalize l'.getD k 0 = y at *
        have h3 : IntKind.i64.wrap (x + y) = E := by rw [HE.out, wrapk]; rfl
        have h4 : wrap64 (x + y) = E := by rw [HE.out]; rfl
        clear HE
        go_wp2_with fail
        go_region
        go_wp2_with fail
        exact ⟨⟨k + 1, _, rfl, by omega, by go_num, HST.out.drew, HBS.out.drew, by show _ < (World.setCell _ _ _).heap.size; rw [World.size_setCell]; exact hsz⟩, by simp [intOf]; omega⟩
      · have hkN : k = N := by omega
        subst hkN
        have hd : decide (k < k) = false := by simp
        go_wp2_with fail
        go_ret
        have hfin : RowI w.heap.size wq.heap.size wq (.slice (some ⟨w.heap.size, 0, none⟩) k k) R := by
          refine ⟨?_, fun g' hg' => ?_⟩
          · have h9 := HO.out; rw [HEND.out] at h9; rw [HRL.out]; exact h9
          · have : w.heap.size = g' := by simpa [Value.ownBlock] using hg'
            omega
        exact ⟨_, rfl, ⟨hfin, Nat.le_refl _⟩, HB.out⟩
set_option maxHeartbeats 4000000 in
set_option maxRecDepth 100000 in
theorem srwi_any (B : Nat) (v : Value) (m : List (List Int)) (i : Int) (w : World) (h : MatB B w v m) (hB : B ≤ w.heap.size) (hf : RowsFit m) :
    Calls Tryz.prog 28 #[v, .int .i64 i] w (MakesS w (srwL m i)) := by
  have HIS := Lib.hid (fun c (hc : isB m = c) => icm_0 B v m c hc w h hf)
  have HR := Lib.hid h
  obtain ⟨a, cap, rfl⟩ := h.slice
  have hlm := hf.1
  unfold maxLen at hlm
  have HPT := Lib.hid (fun (c : Bool) (hc : ptB i m.length = c) (wx : World) => pt_c a m.length cap i c hc wx (by omega))
  clear h hf
  by_cases hI : IsC m
  · have HC := Lib.hid (HIS.out true (isB_yes hI))
    by_cases hi : 0 ≤ i ∧ i ≤ (m.length : Int) - 1
    · have HV := Lib.hid (srwL_yes (m := m) (i := i) ⟨hI, hi⟩)
      have HP := Lib.hid (HPT.out true (ptB_yes hi))
      obtain ⟨p, rfl⟩ := Int.eq_ofNat_of_zero_le hi.1
      have HRW := Lib.hid (show Rows0 m m.length m.length from hI.1)
      have hn4 := hI.2.2.2
      have hp : p < m.length := by omega
      simp only [Int.toNat_natCast] at HV
      have hRL : (colK m p m.length).length = m.length := colK_len _ _ _
      have HRL := Lib.hid hRL
      have HGET := Lib.hid (fun k (hk : k < m.length) => show (colK m p m.length).getD k 0 = entry m k p from by unfold colK; simp [List.getD, hk])
      have HSET := Lib.hid (fun k (hk : k < m.length) => filS_set (colK m p m.length) k (by omega))
      have HLN := Lib.hid (fun k (hk : k ≤ m.length) => (filS_len (colK m p m.length) k (by omega)).trans hRL)
      have HEND := Lib.hid (filS_end (colK m p m.length))
      have h2 : filS (colK m p m.length) 0 = zerosR m.length := by rw [filS_zero, hRL]
      rw [hRL] at HEND
      have H1 := Lib.hid (fun (wx : World) => show (Instr.makeSlice 25 (.int .i64 (m.length : Nat)) (.int .i64 (m.length : Nat))).run Tryz.prog wx = .ok (.slice (some ⟨wx.heap.size, 0, none⟩) m.length m.length) (wx.alloc (.cells (intsV (filS (colK m p m.length) 0)).toArray 3)) ∧ (wx.alloc (.cells (intsV (filS (colK m p m.length) 0)).toArray 3)).ownsRow wx.heap.size 3 1 (.slice (some ⟨wx.heap.size, 0, none⟩) m.length m.length) m.length (intsV (filS (colK m p m.length) 0)) from by
        have hmk := makeInts m.length (by omega) wx
        have h1 := row_whole6 wx (zerosR m.length) (by rw [zerosR_len]; omega)
        rw [zerosR_len] at h1
        rw [← h2] at hmk h1
        have h3 := h1.1
        rw [HLN.out 0 (by omega)] at h3
        exact ⟨hmk, h3⟩)
      clear hRL h2 HPT HIS hI hi
      rw [HV.out]
      clear HV
      generalize colK m p m.length = R at *
      generalize m.length = n at *
      go_enter Tryz.func28, Tryz.ntmps28
      go_wp2_with fail
      refine HC.out.mono ?_
      rintro e w2 ⟨rfl, q, rfl⟩
      go_wp2_with fail
      refine (HP.out _).mono ?_
      rintro e w3 ⟨rfl, rfl⟩
      obtain ⟨hmk, ho1⟩ := H1.out (w.drewN q)
      have HO1 := Lib.hid ho1
      clear ho1 H1 HC HP
      go_wp2_with fail
      clear hmk
      go_loopw [22] (fun i' wr => ∃ (k : Nat) (wq : World), wq = wr ∧ k ≤ n ∧ i' = .int .i64 k ∧ wq.ownsRow w.heap.size 3 1 (.slice (some ⟨w.heap.size, 0, none⟩) n n) n (intsV (filS R k)) ∧ Below w.heap.size w wq ∧ w.heap.size < wq.heap.size) (fun i' _ => n - (intOf i').toNat)
      case atStart => exact ⟨0, _, rfl, Nat.zero_le _, rfl, HO1.out, (below_drewN q).alloc (Nat.le_refl _) _, by simp⟩
      case round =>
        obtain ⟨k, wq, rfl, hk, rfl, hown, hb, hsz⟩ := hrel
        have HO := Lib.hid hown; have HB := Lib.hid hb
        by_cases hlt : k < n
        · have hcell : ∃ c, wq.cell? ⟨w.heap.size, k, none⟩ = some c := ⟨_, (hown.cellAt k (by omega)).trans (List.getElem?_eq_getElem (by rw [intsV_len, HLN.out k hk]; exact hlt))⟩
          obtain ⟨c, hcell⟩ := hcell
          have hfz : wq.frozen? ⟨w.heap.size, k, none⟩ = false := hown.frozenAt k
          obtain ⟨b, off, rb, roff, rcap, rfl, hc1, hx⟩ := (HR.out.below hb hB).entry HRW.out hlt hp
          obtain ⟨hst, hgs⟩ := hown.stored k (.int .i64 (R.getD k 0))
          rw [intsV_set, HSET.out k hlt] at hst
          rw [← HGET.out k hlt] at hx
          have HST := Lib.hid hst
          have HBS := Lib.hid (hb.setCell (p := ⟨w.heap.size, k, none⟩) (Nat.le_refl _) (.int .i64 (R.getD k 0)))
          clear hst hgs hown hb
          generalize R.getD k 0 = E at *
          go_wp2_with fail
          exact ⟨⟨k + 1, _, rfl, by omega, by go_num, HST.out, HBS.out, by rw [World.size_setCell]; exact hsz⟩, by simp [intOf]; omega⟩
        · obtain rfl : k = n := by omega
          have hd : decide (k < k) = false := by simp
          go_wp2_with fail
          go_ret
          have hfin : RowI w.heap.size wq.heap.size wq (.slice (some ⟨w.heap.size, 0, none⟩) k k) R := by
            refine ⟨?_, fun g' hg' => ?_⟩
            · have h9 := HO.out; rw [HEND.out] at h9; rw [HRL.out]; exact h9
            · have : w.heap.size = g' := by simpa [Value.ownBlock] using hg'
              omega
          exact ⟨_, rfl, ⟨hfin, Nat.le_refl _⟩, HB.out⟩
    · have HV := Lib.hid (srwL_no (m := m) (i := i) (fun h => hi h.2))
      have HP := Lib.hid (HPT.out false (ptB_no hi))
      clear HPT HIS hI hi
      rw [HV.out]
      generalize m.length = n at *
      clear HV
      go_enter Tryz.func28, Tryz.ntmps28
      go_wp2_with fail
      refine HC.out.mono ?_
      rintro e w2 ⟨rfl, q, rfl⟩
      go_wp2_with fail
      refine (HP.out _).mono ?_
      rintro e w3 ⟨rfl, rfl⟩
      go_wp2_with fail
      go_ret
      exact ⟨_, rfl, ⟨RowI.nil' _ _ _, Nat.le_refl _⟩, below_drewN q⟩
  · have HC := Lib.hid (HIS.out false (isB_no hI))
    have HV := Lib.hid (srwL_no (m := m) (i := i) (fun h => hI h.1))
    clear HPT HIS hI
    rw [HV.out]
    generalize m.length = n at *
    clear HV
    go_enter Tryz.func28, Tryz.ntmps28
    go_wp2_with fail
    refine HC.out.mono ?_
    rintro e w2 ⟨rfl, q, rfl⟩
    go_wp2_with fail
    go_ret
    exact ⟨_, rfl, ⟨RowI.nil' _ _ _, Nat.le_refl _⟩, below_drewN q⟩
end Go.Proofs.YtcmnkhblnlmfpaaGreatDoor
namespace Go.Proofs.YtcmnkhblnlmfpaaGreatDoor
open Go.RowKit

set_option maxRecDepth 100000 in
set_option maxHeartbeats 1000000 in
theorem mul64_c (n : Nat) (h : n = 1 ∨ n = 2 ∨ n = 3 ∨ n = 4) (w : World) :
    Calls Tryz.prog 120 #[.int .u64 1, .int .u64 n] w fun e w' => e = .returned (.tuple #[.int .u64 0, .int .u64 n]) ∧ w = w' := by
  rcases h with rfl | rfl | rfl | rfl
  all_goals
    go_enter Tryz.func120, Tryz.ntmps120
    go_wp2
    go_ret2
    exact ⟨rfl, rfl⟩
set_option maxRecDepth 100000 in
set_option maxHeartbeats 1000000 in
theorem mul_c (n : Nat) (h : n = 1 ∨ n = 2 ∨ n = 3 ∨ n = 4) (w : World) :
    Calls Tryz.prog 108 #[.int .u64 1, .int .u64 n] w fun e w' => e = .returned (.tuple #[.int .u64 0, .int .u64 n]) ∧ w = w' := by
  have HM := Lib.hid (mul64_c n h w)
  have hn : n ≤ 4 := by omega
  clear h
  go_enter Tryz.func108, Tryz.ntmps108
  go_wp2_with fail
  refine HM.out.mono ?_
  rintro e w' ⟨rfl, rfl⟩
  go_wp2_with fail
  go_ret2
  exact ⟨rfl, rfl⟩
def oneS (n k : Nat) : List Int := List.replicate k 1 ++ List.replicate (n - k) 0
theorem oneS_len (n k : Nat) (h : k ≤ n) : (oneS n k).length = n := by simp [oneS]; omega
theorem oneS_zero (n : Nat) : oneS n 0 = zerosR n := by simp [oneS, zerosR]
theorem oneS_end (n : Nat) : oneS n n = onesR n := by simp [oneS, onesR]
theorem oneS_splice (n k c : Nat) (_h : k + c ≤ n) : splice (intsV (oneS n k)) k (intsV (List.replicate c 1)) = intsV (oneS n (k + c)) := by
  have e : n - k = c + (n - (k + c)) := by omega
  unfold splice oneS
  rw [e]
  simp only [intsV, List.map_append, List.map_replicate]
  rw [List.take_left' (by simp), List.length_replicate, ← List.append_assoc]
  rw [show List.drop (k + c) (List.replicate k (Value.int IntKind.i64 1) ++ List.replicate (c + (n - (k + c))) (Value.int IntKind.i64 0)) = List.replicate (n - (k + c)) (Value.int IntKind.i64 0) from by
    rw [List.drop_append, List.drop_of_length_le (by simp), List.nil_append, List.length_replicate, List.drop_replicate]
    rw [show c + (n - (k + c)) - (k + c - k) = n - (k + c) by omega]]
  rw [List.replicate_append_replicate]
theorem oneS_get (n k j : Nat) (hj : j < k) (_h : k ≤ n) : (intsV (oneS n k))[j]? = some (.int .i64 1) := by
  unfold oneS intsV
  rw [List.map_append, List.getElem?_append_left (by simp; omega)]
  simp [hj]
/-- 'copy' into a row of the call's own that is known whole. -/
theorem copy_at {ops : Array Oper} {rest : List Oper} {o : Oper} {a : Act} {Q : Exit → Act → World → Prop} {d s : Operand} {w : World} (g off dLen dCap b boff sLen sCap : Nat) (cur cs : List Value) {cur2 : List Value}
    (hg : w.heap[g]? = some (.cells cur.toArray 3 (0, 0))) (hn : cs.length = Nat.min sLen dLen) (hsrc : ∀ j v, cs[j]? = some v → w.cell? ((⟨b, boff, none⟩ : Addr).add j) = some v) (hfit : off + cs.length ≤ cur.length) (h1 : ∀ v ∈ cs, v.oneCell' = true)
    (h2 : splice cur off cs = cur2) {B : Nat} {w0 : World} (hb : Below B w0 w) (hBg : B ≤ g) (hgd : o.guard = none) (ho : o.op = .call { callee := .builtin .copy, args := #[d, s], argTypes := #[25, 25] })
    (hd : a.eval d = .slice (some ⟨g, off, none⟩) dLen dCap) (hs : a.eval s = .slice (some ⟨b, boff, none⟩) sLen sCap)
    (h : ∀ w', Hid (w'.heap[g]? = some (.cells cur2.toArray 3 (0, 0))) → Below B w0 w' → wpList Tryz.prog ops Q rest (a.put o.dst (goInt cs.length)) w') : wpList Tryz.prog ops Q (o :: rest) a w := by
  subst h2
  exact wpList_copy_splice hgd d s 25 25 ho 3 Tryz.underlying25 (by kernel_rfl) _ _ dLen dCap sLen sCap hd hs g off cur 3 hg cs hn (fun _ => ⟨rfl, _, rfl, hsrc⟩) hfit h1 B w0 hb hBg h
theorem copy_run {w : World} (ty : TypeId) (g off dLen dCap b boff sLen sCap : Nat) (cur cs : List Value) {cur2 : List Value} (c : Nat)
    (hg : w.heap[g]? = some (.cells cur.toArray 3 (0, 0))) (hn : cs.length = Nat.min sLen dLen) (hsrc : ∀ j v, cs[j]? = some v → w.cell? ((⟨b, boff, none⟩ : Addr).add j) = some v) (hfit : off + cs.length ≤ cur.length) (h1 : ∀ v ∈ cs, v.oneCell' = true)
    (h2 : splice cur off cs = cur2) (hc : cs.length = c) {B : Nat} {w0 : World} (hb : Below B w0 w) (hBg : B ≤ g) :
    ∃ w4, (Builtin.copy_ #[25, 25] ty #[.slice (some ⟨g, off, none⟩) dLen dCap, .slice (some ⟨b, boff, none⟩) sLen sCap]).run Tryz.prog w = .ok (.int .i64 (c : Int)) w4 ∧ w4.heap[g]? = some (.cells cur2.toArray 3 (0, 0)) ∧ Below B w0 w4 := by
  subst h2; subst hc
  refine ⟨_, run_copy_row (P := Tryz.prog) w 25 25 ty 3 g off dLen dCap ⟨b, boff, none⟩ sLen sCap cur.toArray 3 cs Tryz.underlying25 (by kernel_rfl) hg hn hsrc (by simpa using hfit) h1, ?_, below_setRow hb hBg _⟩
  simpa [splice] using setRow_heap w g _ _ 3 _ hg
theorem rep_row {n : Nat} {w wq : World} (hq : wq.heap[w.heap.size]? = some (.cells (intsV (oneS n n)).toArray 3 (0, 0))) (he : oneS n n = onesR n) (h4 : n ≤ 4) (_hb : Below w.heap.size w wq) :
    RowI w.heap.size wq.heap.size wq (.slice (some ⟨w.heap.size, 0, none⟩) n n) (onesR n) := by
  have hl : (onesR n).length = n := by simp [onesR]
  rw [he] at hq
  refine ⟨⟨by rw [intsV_len]; simp, Or.inr ⟨w.heap.size, n, (intsV (onesR n)).toArray, by rw [hl], Nat.le_refl _, hq, by omega, by unfold maxLen; omega, by simp [intsV_len, hl], ?_⟩⟩, fun g hg => ?_⟩
  · rw [List.take_of_length_le]; simp [intsV_len]
  · have : w.heap.size = g := by simpa [Value.ownBlock] using hg
    have := (Array.getElem?_eq_some_iff.1 hq).1
    omega
set_option maxRecDepth 100000 in
set_option maxHeartbeats 4000000 in
theorem repi_any (g n : Nat) (h1 : 1 ≤ n) (h4 : n ≤ 4) (w : World) (hg : w.heap[g]? = some (.cells #[.int .i64 1] 3 (0, 0))) :
    Calls Tryz.prog 77 #[.slice (some ⟨g, 0, none⟩) 1 1, .int .i64 n] w (MakesS w (onesR n)) := by
  have HM := Lib.hid (mul_c n (by omega) w)
  have hmk := makeInts n (by omega) w
  rw [← oneS_zero] at hmk
  have hgl : g < w.heap.size := (Array.getElem?_eq_some_iff.1 hg).1
  have HG := Lib.hid hg
  have HEND := Lib.hid (oneS_end n)
  clear hg
  have hg0 : (w.alloc (.cells (intsV (oneS n 0)).toArray 3)).heap[w.heap.size]? = some (.cells (intsV (oneS n 0)).toArray 3 (0, 0)) := (MapKept.heap_alloc w _).1
  have HG0 := Lib.hid hg0
  have hs : (w.alloc (.cells (intsV (oneS n 0)).toArray 3)).cell? ⟨g, 0, none⟩ = some (.int .i64 1) := by
    rw [World.cell?_alloc_past _ _ _ hgl, cell_of_row w g 0 _ _ _ HG.out]; rfl
  have HSR := Lib.hid (show ∀ j v, [Value.int IntKind.i64 1][j]? = some v → (w.alloc (.cells (intsV (oneS n 0)).toArray 3)).cell? ((⟨g, 0, none⟩ : Addr).add j) = some v from fun j v hj => by
    obtain rfl : j = 0 := by have := (List.getElem?_eq_some_iff.1 hj).1; simp at this; omega
    simp at hj
    subst hj
    exact hs)
  have HB0 := Lib.hid (show Below w.heap.size w (w.alloc (.cells (intsV (oneS n 0)).toArray 3)) from (Below.refl _ _).alloc (Nat.le_refl _) _)
  have HSP0 := Lib.hid (show splice (intsV (oneS n 0)) 0 [Value.int .i64 1] = intsV (oneS n 1) from oneS_splice n 0 1 (by omega))
  have HL0 := Lib.hid (show 0 + [Value.int IntKind.i64 1].length ≤ (intsV (oneS n 0)).length from by rw [intsV_len, oneS_len n 0 (by omega)]; simp; omega)
  have HMIN := Lib.hid (show [Value.int IntKind.i64 1].length = Nat.min 1 n from by show 1 = min 1 n; omega)
  have HSP := Lib.hid (fun k (hk : k < n) => oneS_splice n k (min k (n - k)) (by omega))
  have HOL := Lib.hid (fun k (hk : k ≤ n) => show (intsV (oneS n k)).length = n from by rw [intsV_len, oneS_len n k hk])
  have HOG := Lib.hid (fun k j (hj : j < k) (hk : k ≤ n) => oneS_get n k j hj hk)
  have H11 := Lib.hid (show ∀ v ∈ [Value.int IntKind.i64 1], v.oneCell' = true from fun v hv => by simp at hv; subst hv; rfl)
  have HR1 := Lib.hid (fun c => show ∀ v ∈ intsV (List.replicate c 1), v.oneCell' = true from fun v hv => by obtain ⟨x, _, rfl⟩ := List.mem_map.1 hv; rfl)
  clear hg0 hs
  go_enter Tryz.func77, Tryz.ntmps77
  go_wp2_with fail
  refine HM.out.mono ?_
  rintro e w' ⟨rfl, rfl⟩
  clear HM
  go_wp2_with (with_reducible refine copy_at (o := ⟨some 33, _, _, _, _, _⟩) w.heap.size 0 n n g 0 1 1 (intsV (oneS n 0)) [.int .i64 1] HG0.out HMIN.out HSR.out HL0.out H11.out HSP0.out HB0.out (Nat.le_refl _) rfl rfl rfl rfl ?_)
  intro w2 hg2 hb2
  have HG2 := Lib.hid hg2.out
  have HB2 := Lib.hid hb2
  clear hmk hg2 hb2 HG0 HSR HB0 HSP0 HL0 HMIN H11
  go_wp2_with fail
  go_loopw [8] (fun i' wr => ∃ (k : Nat) (wq : World), wq = wr ∧ 1 ≤ k ∧ k ≤ n ∧ i' = .int .i64 k ∧ wq.heap[w.heap.size]? = some (.cells (intsV (oneS n k)).toArray 3 (0, 0)) ∧ Below w.heap.size w wq) (fun i' _ => n - (intOf i').toNat)
  case atStart => exact ⟨1, _, rfl, Nat.le_refl _, h1, rfl, HG2.out, HB2.out⟩
  case round =>
    obtain ⟨k, wq, rfl, hk1, hk, rfl, hq, hb⟩ := hrel
    have HQ := Lib.hid hq; have HB := Lib.hid hb
    clear hq hb
    by_cases hlt : k < n
    · have hd : decide (k < n) = true := decide_eq_true hlt
      obtain ⟨c, hc⟩ : ∃ c, c = min k (n - k) := ⟨_, rfl⟩
      have HSRC := Lib.hid (fun (wx : World) (hwx : wx.heap[w.heap.size]? = some (.cells (intsV (oneS n k)).toArray 3 (0, 0))) => show ∀ j v, (intsV (List.replicate c 1))[j]? = some v → wx.cell? ((⟨w.heap.size, 0, none⟩ : Addr).add j) = some v from fun j v hj => by
        have hjl : j < c := by have := (List.getElem?_eq_some_iff.1 hj).1; rw [intsV_len] at this; simpa using this
        rw [Addr.add_lit, cell_of_row wx _ (0 + j) _ _ _ hwx]
        have h9 := HOG.out k j (by omega) hk
        simp only [Nat.zero_add, List.getElem?_toArray]
        rw [h9, ← hj]
        simp [intsV, hjl])
      have HCL := Lib.hid (show (intsV (List.replicate c 1)).length = Nat.min k (n - k) from by rw [intsV_len, List.length_replicate]; exact hc)
      have HFT := Lib.hid (show k + (intsV (List.replicate c 1)).length ≤ (intsV (oneS n k)).length from by rw [HOL.out k hk, intsV_len, List.length_replicate]; omega)
      have HS := Lib.hid (show splice (intsV (oneS n k)) k (intsV (List.replicate c 1)) = intsV (oneS n (k + c)) from by rw [hc]; exact HSP.out k hlt)
      have HCE := Lib.hid (show (intsV (List.replicate c 1)).length = c from by rw [intsV_len, List.length_replicate])
      have hc1 : 1 ≤ c := by omega
      have hc2 : k + c ≤ n := by omega
      have hnk : (n = 2 ∧ k = 1 ∧ c = 1) ∨ (n = 3 ∧ k = 1 ∧ c = 1) ∨ (n = 3 ∧ k = 2 ∧ c = 1) ∨ (n = 4 ∧ k = 1 ∧ c = 1) ∨ (n = 4 ∧ k = 2 ∧ c = 2) ∨ (n = 4 ∧ k = 3 ∧ c = 1) := by omega
      clear hc hc1 hc2 hlt hk1 hk HSP HOL HOG
      have HQD := Lib.hid (show wq.drew.heap[w.heap.size]? = some (.cells (intsV (oneS n k)).toArray 3 (0, 0)) from HQ.out)
      have HSD := Lib.hid (HSRC.out wq.drew HQD.out)
      have HBD := Lib.hid (HB.out.drew)
      clear HSRC HQ HB
      rcases hnk with ⟨rfl, rfl, rfl⟩ | ⟨rfl, rfl, rfl⟩ | ⟨rfl, rfl, rfl⟩ | ⟨rfl, rfl, rfl⟩ | ⟨rfl, rfl, rfl⟩ | ⟨rfl, rfl, rfl⟩
      · obtain ⟨w4, hcp, hg4, hb4⟩ := copy_run 3 w.heap.size 1 1 1 w.heap.size 0 1 2 _ _ 1 HQD.out HCL.out HSD.out HFT.out (HR1.out 1) HS.out HCE.out HBD.out (Nat.le_refl _)
        have HG4 := Lib.hid hg4
        have HB4 := Lib.hid hb4
        clear hg4 hb4 HCE HCL HFT HS HSD HQD HBD
        go_wp2_with fail
        go_region
        go_wp2_with fail
        exact ⟨⟨2, _, rfl, by omega, by omega, by go_num, HG4.out, HB4.out⟩, by simp [intOf]⟩
      · obtain ⟨w4, hcp, hg4, hb4⟩ := copy_run 3 w.heap.size 1 2 2 w.heap.size 0 1 3 _ _ 1 HQD.out HCL.out HSD.out HFT.out (HR1.out 1) HS.out HCE.out HBD.out (Nat.le_refl _)
        have HG4 := Lib.hid hg4
        have HB4 := Lib.hid hb4
        clear hg4 hb4 HCE HCL HFT HS HSD HQD HBD
        go_wp2_with fail
        go_region
        go_wp2_with fail
        exact ⟨⟨2, _, rfl, by omega, by omega, by go_num, HG4.out, HB4.out⟩, by simp [intOf]⟩
      · obtain ⟨w4, hcp, hg4, hb4⟩ := copy_run 3 w.heap.size 2 1 1 w.heap.size 0 2 3 _ _ 1 HQD.out HCL.out HSD.out HFT.out (HR1.out 1) HS.out HCE.out HBD.out (Nat.le_refl _)
        have HG4 := Lib.hid hg4
        have HB4 := Lib.hid hb4
        clear hg4 hb4 HCE HCL HFT HS HSD HQD HBD
        go_wp2_with fail
        go_region
        go_wp2_with fail
        exact ⟨⟨3, _, rfl, by omega, by omega, by go_num, HG4.out, HB4.out⟩, by simp [intOf]⟩
      · obtain ⟨w4, hcp, hg4, hb4⟩ := copy_run 3 w.heap.size 1 3 3 w.heap.size 0 1 4 _ _ 1 HQD.out HCL.out HSD.out HFT.out (HR1.out 1) HS.out HCE.out HBD.out (Nat.le_refl _)
        have HG4 := Lib.hid hg4
        have HB4 := Lib.hid hb4
        clear hg4 hb4 HCE HCL HFT HS HSD HQD HBD
        go_wp2_with fail
        go_region
        go_wp2_with fail
        exact ⟨⟨2, _, rfl, by omega, by omega, by go_num, HG4.out, HB4.out⟩, by simp [intOf]⟩
      · obtain ⟨w4, hcp, hg4, hb4⟩ := copy_run 3 w.heap.size 2 2 2 w.heap.size 0 2 4 _ _ 2 HQD.out HCL.out HSD.out HFT.out (HR1.out 2) HS.out HCE.out HBD.out (Nat.le_refl _)
        have HG4 := Lib.hid hg4
        have HB4 := Lib.hid hb4
        clear hg4 hb4 HCE HCL HFT HS HSD HQD HBD
        go_wp2_with fail
        go_region
        go_wp2_with fail
        exact ⟨⟨4, _, rfl, by omega, by omega, by go_num, HG4.out, HB4.out⟩, by simp [intOf]⟩
      · obtain ⟨w4, hcp, hg4, hb4⟩ := copy_run 3 w.heap.size 3 1 1 w.heap.size 0 3 4 _ _ 1 HQD.out HCL.out HSD.out HFT.out (HR1.out 1) HS.out HCE.out HBD.out (Nat.le_refl _)
        have HG4 := Lib.hid hg4
        have HB4 := Lib.hid hb4
        clear hg4 hb4 HCE HCL HFT HS HSD HQD HBD
        go_wp2_with fail
        go_region
        go_wp2_with fail
        exact ⟨⟨4, _, rfl, by omega, by omega, by go_num, HG4.out, HB4.out⟩, by simp [intOf]⟩
    · obtain rfl : k = n := by omega
      have hd : decide (k < k) = false := by simp
      go_wp2_with fail
      go_ret
      exact ⟨_, rfl, ⟨rep_row HQ.out HEND.out (by omega) HB.out, Nat.le_refl _⟩, HB.out⟩
set_option maxRecDepth 100000 in
set_option maxHeartbeats 4000000 in
theorem rhoi_any (B : Nat) (v : Value) (m : List (List Int)) (w : World) (h : MatB B w v m) (_hB : B ≤ w.heap.size) (hf : RowsFit m) :
    Calls Tryz.prog 30 #[v] w (MakesS w (rhoL m)) := by
  have HIS := Lib.hid (fun c (hc : isB m = c) => icm_0 B v m c hc w h hf)
  obtain ⟨a, cap, rfl⟩ := h.slice
  clear h hf
  by_cases hI : IsC m
  · have HC := Lib.hid (HIS.out true (isB_yes hI))
    have HV := Lib.hid (rhoL_yes hI)
    have h1 := hI.2.2.1
    have h4 := hI.2.2.2
    clear HIS hI
    generalize m.length = n at *
    have HRP := Lib.hid (fun (q : Nat) => repi_any (w.drewN q).heap.size n h1 h4 ((w.drewN q).alloc (.cells #[.int .i64 1] 3)) (MapKept.heap_alloc _ _).1)
    go_enter Tryz.func30, Tryz.ntmps30
    go_wp2_with fail
    refine HC.out.mono ?_
    rintro e w2 ⟨rfl, q, rfl⟩
    go_wp2_with fail
    refine (HRP.out q).mono ?_
    rintro e w3 ⟨x, rfl, hx, hb⟩
    have HX := Lib.hid (hx.1.mono (A' := w.heap.size) (by simp) (Nat.le_refl _))
    have HB := Lib.hid (((below_drewN q).alloc (Nat.le_refl _) _).trans (hb.mono (by simp)))
    clear hx hb
    go_wp2_with fail
    go_ret
    exact ⟨_, rfl, ⟨by rw [HV.out]; exact HX.out, Nat.le_refl _⟩, HB.out⟩
  · have HC := Lib.hid (HIS.out false (isB_no hI))
    have HV := Lib.hid (rhoL_no hI)
    clear HIS hI
    generalize m.length = n at *
    go_enter Tryz.func30, Tryz.ntmps30
    go_wp2_with fail
    refine HC.out.mono ?_
    rintro e w2 ⟨rfl, q, rfl⟩
    go_wp2_with fail
    go_ret
    exact ⟨_, rfl, ⟨by rw [HV.out]; exact RowI.nil' _ _ _, Nat.le_refl _⟩, below_drewN q⟩
end Go.Proofs.YtcmnkhblnlmfpaaGreatDoor
