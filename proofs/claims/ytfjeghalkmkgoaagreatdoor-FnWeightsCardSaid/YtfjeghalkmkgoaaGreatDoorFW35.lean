/-
  Weights: what the program's ReflectWeight, AddWeights and SimpleRootWeight return.
-/
import Derived.Deep.QuietTactic
import Derived.Test.YtfjeghalkmkgoaaGreatDoorFW34
import Derived.Test.YtfjeghalkmkgoaaGreatDoorFW07
import Derived.Test.YtfjeghalkmkgoaaGreatDoorFW17
namespace Go.Proofs.YtfjeghalkmkgoaaGreatDoor
open Go.RowKit

theorem row_whole6 (w : World) (l : List Int) (h : l.length ≤ 1048576) : RowI w.heap.size (w.alloc (.cells (intsV l).toArray 3)).heap.size (w.alloc (.cells (intsV l).toArray 3)) (.slice (some ⟨w.heap.size, 0, none⟩) l.length l.length) l := by
  refine ⟨World.ownsRow_lit (base := w.heap.size) (e := 3) (size := 1) w (intsV l).toArray l.length (Nat.le_refl _) (by unfold maxLen; omega) (by simp [intsV]), fun g hg => ?_⟩
  have : w.heap.size = g := by simpa [Value.ownBlock] using hg
  simp; omega
def filS (l : List Int) (k : Nat) : List Int := l.take k ++ List.replicate (l.length - k) 0
theorem filS_zero (l : List Int) : filS l 0 = zerosR l.length := by simp [filS, zerosR]
theorem filS_len (l : List Int) (k : Nat) (h : k ≤ l.length) : (filS l k).length = l.length := by simp [filS]; omega
theorem filS_end (l : List Int) : filS l l.length = l := by simp [filS]
theorem filS_set (l : List Int) (k : Nat) (h : k < l.length) : (filS l k).set k (l.getD k 0) = filS l (k + 1) := by
  have e : l.length - k = (l.length - (k + 1)) + 1 := by omega
  have ht : (l.take k).length = k := by rw [List.length_take]; omega
  have hg : l.getD k 0 = l[k] := by simp [List.getD, h]
  unfold filS
  rw [e, List.replicate_succ, List.set_append_right _ _ (by omega), ht, Nat.sub_self, List.set_cons_zero, List.take_succ_eq_append_getElem h, List.append_assoc, hg]
  rfl
set_option maxHeartbeats 4000000 in
set_option maxRecDepth 100000 in
theorem addi_any (B B' : Nat) (v v' : Value) (l l' : List Int) (w : World) (h : RowB B w v l) (h' : RowB B' w v' l') (hB : B ≤ w.heap.size) (hB' : B' ≤ w.heap.size) (hl : l.length ≤ 1048576) (hl' : l'.length ≤ 1048576) :
    Calls Tryz.prog 25 #[v, v'] w (MakesS w (addL l l')) := by
  obtain ⟨a, cap, rfl⟩ := h.slice
  obtain ⟨a', cap', rfl⟩ := h'.slice
  have HL := Lib.hid h; have HL' := Lib.hid h'
  clear h h'
  obtain ⟨N, hN⟩ : ∃ N : Nat, N = min l.length l'.length := ⟨_, rfl⟩
  have hRL : (addL l l').length = N := by unfold addL; rw [addK_len]; exact hN.symm
  have hmin : min (l.length : Int) (l'.length : Int) = (N : Int) := by omega
  have hN1 : N ≤ l.length := by omega
  have hN2 : N ≤ l'.length := by omega
  have HRL := Lib.hid hRL
  have HGET := Lib.hid (fun k (hk : k < N) => show (addL l l').getD k 0 = addW (l.getD k 0) (l'.getD k 0) from by
    have h0 : k < min l.length l'.length := by omega
    unfold addL addK
    simp [List.getD, List.getElem?_range h0])
  have HSET := Lib.hid (fun k (hk : k < N) => filS_set (addL l l') k (by omega))
  have HLN := Lib.hid (fun k (hk : k ≤ N) => (filS_len (addL l l') k (by omega)).trans hRL)
  have HEND := Lib.hid (filS_end (addL l l'))
  have hmk := makeInts N (by omega) w
  have h1 := row_whole6 w (zerosR N) (by rw [zerosR_len]; omega)
  rw [zerosR_len] at h1
  have h2 : filS (addL l l') 0 = zerosR N := by rw [filS_zero, hRL]
  rw [← h2] at hmk h1
  rw [hRL] at HEND
  have H1 := Lib.hid (show (w.alloc (.cells (intsV (filS (addL l l') 0)).toArray 3)).ownsRow w.heap.size 3 1 (.slice (some ⟨w.heap.size, 0, none⟩) N N) N (intsV (filS (addL l l') 0)) from by
    have h3 := h1.1
    rw [HLN.out 0 (by omega)] at h3
    exact h3)
  clear h1 h2 hRL hN
  generalize addL l l' = R at *
  generalize hn : l.length = n at *
  generalize hn' : l'.length = n' at *
  have HN := Lib.hid hn; have HN' := Lib.hid hn'
  clear hn hn'
  rcases (show (n' < n ∧ N = n') ∨ (¬ n' < n ∧ N = n) by omega) with ⟨hc, rfl⟩ | ⟨hc, rfl⟩
  all_goals
    go_enter Tryz.func25, Tryz.ntmps25
    go_wp2_with fail
    clear hmk hmin
    go_loopw [15] (fun i' wr => ∃ (k : Nat) (wq : World), wq = wr ∧ k ≤ N ∧ i' = .int .i64 k ∧ wq.ownsRow w.heap.size 3 1 (.slice (some ⟨w.heap.size, 0, none⟩) N N) N (intsV (filS R k)) ∧ Below w.heap.size w wq ∧ w.heap.size < wq.heap.size) (fun i' _ => N - (intOf i').toNat)
    case atStart => exact ⟨0, _, rfl, Nat.zero_le _, rfl, H1.out, (Below.refl _ _).alloc (Nat.le_refl _) _, by simp⟩
    case round =>
      obtain ⟨k, wq, rfl, hk, rfl, hown, hb, hsz⟩ := hrel
      have HO := Lib.hid hown; have HB := Lib.hid hb
      by_cases hlt : k < N
      · have hcell : ∃ c, wq.cell? ⟨w.heap.size, k, none⟩ = some c := ⟨_, (hown.cellAt k (by omega)).trans (List.getElem?_eq_getElem (by rw [intsV_len, HLN.out k hk]; exact hlt))⟩
        obtain ⟨c, hcell⟩ := hcell
        have hfz : wq.frozen? ⟨w.heap.size, k, none⟩ = false := hown.frozenAt k
        obtain ⟨b, off, rfl, _, hx⟩ := (HL.out.below hb hB).getD (j := k) (by omega)
        obtain ⟨b', off', rfl, _, hy⟩ := (HL'.out.below hb hB').getD (j := k) (by omega)
        obtain ⟨hst, hgs⟩ := hown.stored k (.int .i64 (R.getD k 0))
        rw [intsV_set, HSET.out k hlt] at hst
        have HST := Lib.hid hst
        have HBS := Lib.hid (hb.setCell (p := ⟨w.heap.size, k, none⟩) (Nat.le_refl _) (.int .i64 (R.getD k 0)))
        have HE := Lib.hid (HGET.out k hlt)
        clear hst hgs hown hb
        generalize R.getD k 0 = E at *
        generalize l.getD k 0 = x at *
        generalize l'.getD k 0 = y at *
        have h3 : IntKind.i64.wrap (x + y) = E := by rw [HE.out, wrapk]; rfl
        have h4 : wrap64 (x + y) = E := by rw [HE.out]; rfl
        clear HE
        go_wp2_with fail
        go_region
        go_wp2_with fail
        exact ⟨⟨k + 1, _, rfl, by omega, by go_num, HST.out.drew, HBS.out.drew, by show _ < (World.setCell _ _ _).heap.size; rw [World.size_setCell]; exact hsz⟩, by simp [intOf]; omega⟩
      · have hkN : k = N := by omega
        subst hkN
        have hd : decide (k < k) = false := by simp
        go_wp2_with fail
        go_ret
        have hfin : RowI w.heap.size wq.heap.size wq (.slice (some ⟨w.heap.size, 0, none⟩) k k) R := by
          refine ⟨?_, fun g' hg' => ?_⟩
          · have h9 := HO.out; rw [HEND.out] at h9; rw [HRL.out]; exact h9
          · have : w.heap.size = g' := by simpa [Value.ownBlock] using hg'
            omega
        exact ⟨_, rfl, ⟨hfin, Nat.le_refl _⟩, HB.out⟩
set_option maxHeartbeats 4000000 in
set_option maxRecDepth 100000 in
theorem srwi_any (B : Nat) (v : Value) (m : List (List Int)) (i : Int) (w : World) (h : MatB B w v m) (hB : B ≤ w.heap.size) (hf : RowsFit m) :
    Calls Tryz.prog 27 #[v, .int .i64 i] w (MakesS w (srwL m i)) := by
  have HIS := Lib.hid (fun c (hc : isB m = c) => icm_0 B v m c hc w h hf)
  have HR := Lib.hid h
  obtain ⟨a, cap, rfl⟩ := h.slice
  have hlm := hf.1
  unfold maxLen at hlm
  have HPT := Lib.hid (fun (c : Bool) (hc : ptB i m.length = c) (wx : World) => pt_c a m.length cap i c hc wx (by omega))
  clear h hf
  by_cases hI : IsC m
  · have HC := Lib.hid (HIS.out true (isB_yes hI))
    by_cases hi : 0 ≤ i ∧ i ≤ (m.length : Int) - 1
    · have HV := Lib.hid (srwL_yes (m := m) (i := i) ⟨hI, hi⟩)
      have HP := Lib.hid (HPT.out true (ptB_yes hi))
      obtain ⟨p, rfl⟩ := Int.eq_ofNat_of_zero_le hi.1
      have HRW := Lib.hid (show Rows0 m m.length m.length from hI.1)
      have hn4 := hI.2.2.2
      have hp : p < m.length := by omega
      simp only [Int.toNat_natCast] at HV
      have hRL : (colK m p m.length).length = m.length := colK_len _ _ _
      have HRL := Lib.hid hRL
      have HGET := Lib.hid (fun k (hk : k < m.length) => show (colK m p m.length).getD k 0 = entry m k p from by unfold colK; simp [List.getD, hk])
      have HSET := Lib.hid (fun k (hk : k < m.length) => filS_set (colK m p m.length) k (by omega))
      have HLN := Lib.hid (fun k (hk : k ≤ m.length) => (filS_len (colK m p m.length) k (by omega)).trans hRL)
      have HEND := Lib.hid (filS_end (colK m p m.length))
      have h2 : filS (colK m p m.length) 0 = zerosR m.length := by rw [filS_zero, hRL]
      rw [hRL] at HEND
      have H1 := Lib.hid (fun (wx : World) => show (Instr.makeSlice 25 (.int .i64 (m.length : Nat)) (.int .i64 (m.length : Nat))).run Tryz.prog wx = .ok (.slice (some ⟨wx.heap.size, 0, none⟩) m.length m.length) (wx.alloc (.cells (intsV (filS (colK m p m.length) 0)).toArray 3)) ∧ (wx.alloc (.cells (intsV (filS (colK m p m.length) 0)).toArray 3)).ownsRow wx.heap.size 3 1 (.slice (some ⟨wx.heap.size, 0, none⟩) m.length m.length) m.length (intsV (filS (colK m p m.length) 0)) from by
        have hmk := makeInts m.length (by omega) wx
        have h1 := row_whole6 wx (zerosR m.length) (by rw [zerosR_len]; omega)
        rw [zerosR_len] at h1
        rw [← h2] at hmk h1
        have h3 := h1.1
        rw [HLN.out 0 (by omega)] at h3
        exact ⟨hmk, h3⟩)
      clear hRL h2 HPT HIS hI hi
      rw [HV.out]
      clear HV
      generalize colK m p m.length = R at *
      generalize m.length = n at *
      go_enter Tryz.func27, Tryz.ntmps27
      go_wp2_with fail
      refine HC.out.mono ?_
      rintro e w2 ⟨rfl, q, rfl⟩
      go_wp2_with fail
      refine (HP.out _).mono ?_
      rintro e w3 ⟨rfl, rfl⟩
      obtain ⟨hmk, ho1⟩ := H1.out (w.drewN q)
      have HO1 := Lib.hid ho1
      clear ho1 H1 HC HP
      go_wp2_with fail
      clear hmk
      go_loopw [22] (fun i' wr => ∃ (k : Nat) (wq : World), wq = wr ∧ k ≤ n ∧ i' = .int .i64 k ∧ wq.ownsRow w.heap.size 3 1 (.slice (some ⟨w.heap.size, 0, none⟩) n n) n (intsV (filS R k)) ∧ Below w.heap.size w wq ∧ w.heap.size < wq.heap.size) (fun i' _ => n - (intOf i').toNat)
      case atStart => exact ⟨0, _, rfl, Nat.zero_le _, rfl, HO1.out, (below_drewN q).alloc (Nat.le_refl _) _, by simp⟩
      case round =>
        obtain ⟨k, wq, rfl, hk, rfl, hown, hb, hsz⟩ := hrel
        have HO := Lib.hid hown; have HB := Lib.hid hb
        by_cases hlt : k < n
        · have hcell : ∃ c, wq.cell? ⟨w.heap.size, k, none⟩ = some c := ⟨_, (hown.cellAt k (by omega)).trans (List.getElem?_eq_getElem (by rw [intsV_len, HLN.out k hk]; exact hlt))⟩
          obtain ⟨c, hcell⟩ := hcell
          have hfz : wq.frozen? ⟨w.heap.size, k, none⟩ = false := hown.frozenAt k
          obtain ⟨b, off, rb, roff, rcap, rfl, hc1, hx⟩ := (HR.out.below hb hB).entry HRW.out hlt hp
          obtain ⟨hst, hgs⟩ := hown.stored k (.int .i64 (R.getD k 0))
          rw [intsV_set, HSET.out k hlt] at hst
          rw [← HGET.out k hlt] at hx
          have HST := Lib.hid hst
          have HBS := Lib.hid (hb.setCell (p := ⟨w.heap.size, k, none⟩) (Nat.le_refl _) (.int .i64 (R.getD k 0)))
          clear hst hgs hown hb
          generalize R.getD k 0 = E at *
          go_wp2_with fail
          exact ⟨⟨k + 1, _, rfl, by omega, by go_num, HST.out, HBS.out, by rw [World.size_setCell]; exact hsz⟩, by simp [intOf]; omega⟩
        · obtain rfl : k = n := by omega
          have hd : decide (k < k) = false := by simp
          go_wp2_with fail
          go_ret
          have hfin : RowI w.heap.size wq.heap.size wq (.slice (some ⟨w.heap.size, 0, none⟩) k k) R := by
            refine ⟨?_, fun g' hg' => ?_⟩
            · have h9 := HO.out; rw [HEND.out] at h9; rw [HRL.out]; exact h9
            · have : w.heap.size = g' := by simpa [Value.ownBlock] using hg'
              omega
          exact ⟨_, rfl, ⟨hfin, Nat.le_refl _⟩, HB.out⟩
    · have HV := Lib.hid (srwL_no (m := m) (i := i) (fun h => hi h.2))
      have HP := Lib.hid (HPT.out false (ptB_no hi))
      clear HPT HIS hI hi
      rw [HV.out]
      generalize m.length = n at *
      clear HV
      go_enter Tryz.func27, Tryz.ntmps27
      go_wp2_with fail
      refine HC.out.mono ?_
      rintro e w2 ⟨rfl, q, rfl⟩
      go_wp2_with fail
      refine (HP.out _).mono ?_
      rintro e w3 ⟨rfl, rfl⟩
      go_wp2_with fail
      go_ret
      exact ⟨_, rfl, ⟨RowI.nil' _ _ _, Nat.le_refl _⟩, below_drewN q⟩
  · have HC := Lib.hid (HIS.out false (isB_no hI))
    have HV := Lib.hid (srwL_no (m := m) (i := i) (fun h => hI h.1))
    clear HPT HIS hI
    rw [HV.out]
    generalize m.length = n at *
    clear HV
    go_enter Tryz.func27, Tryz.ntmps27
    go_wp2_with fail
    refine HC.out.mono ?_
    rintro e w2 ⟨rfl, q, rfl⟩
    go_wp2_with fail
    go_ret
    exact ⟨_, rfl, ⟨RowI.nil' _ _ _, Nat.le_refl _⟩, below_drewN q⟩
end Go.Proofs.YtfjeghalkmkgoaaGreatDoor
