/-
  Roots: what the program's WeightOfRoot returns.
-/
import Derived.Test.YtlbgblkoddlhnabRsC
import Derived.Test.YtlbgblkoddlhnabRiA
import Derived.Test.YtlbgblkoddlhnabWtK
namespace Go.Proofs.Ytlbgblkoddlhnab
open Go.RowKit

theorem wrtK_get (m : List (List Int)) (l : List Int) (n k : Nat) (h : k < n) : (wrtK m l n).getD k 0 = prK m k l m.length := by
  unfold wrtK; simp [List.getD, h]
set_option maxHeartbeats 4000000 in
set_option maxRecDepth 100000 in
theorem wrti_any (B B' : Nat) (v v' : Value) (m : List (List Int)) (l : List Int) (w : World) (h : MatB B w v m) (h' : RowB B' w v' l) (hB : B ≤ w.heap.size) (hB' : B' ≤ w.heap.size) (hf : RowsFit m) (hl : l.length ≤ 1048576) :
    Calls Try.prog 8 #[v, v'] w (MakesS w (wrtL m l)) := by
  have HIS := Lib.hid (fun c (hc : isB m = c) => icm_0 B v m c hc w h hf)
  have HR := Lib.hid h; have HL := Lib.hid h'
  obtain ⟨a, cap, rfl⟩ := h.slice
  obtain ⟨a', cap', rfl⟩ := h'.slice
  have hlm := hf.1
  unfold maxLen at hlm
  clear h h' hf
  by_cases hI : IsC m
  · have HC := Lib.hid (HIS.out true (isB_yes hI))
    by_cases hll : l.length = m.length
    · have HV := Lib.hid (wrtL_yes (m := m) (l := l) ⟨hI, hll⟩)
      have HRW := Lib.hid (show Rows0 m m.length m.length from hI.1)
      have hn4 := hI.2.2.2
      have hRL : (wrtK m l m.length).length = m.length := wrtK_len _ _ _
      have HRL := Lib.hid hRL
      have HGET := Lib.hid (fun k (hk : k < m.length) => wrtK_get m l m.length k hk)
      have HSET := Lib.hid (fun k (hk : k < m.length) => filS_set (wrtK m l m.length) k (by omega))
      have HLN := Lib.hid (fun k (hk : k ≤ m.length) => (filS_len (wrtK m l m.length) k (by omega)).trans hRL)
      have HEND := Lib.hid (filS_end (wrtK m l m.length))
      have h2 : filS (wrtK m l m.length) 0 = zerosR m.length := by rw [filS_zero, hRL]
      rw [hRL] at HEND
      have HP := Lib.hid (fun (k : Nat) (hk : k < m.length) (wx : World) (hb : Below w.heap.size w wx) => pair_any B B' _ _ m l k wx (HR.out.below hb hB) (HL.out.below hb hB') HRW.out hll hk (by omega))
      have H1 := Lib.hid (fun (wx : World) => show (Instr.makeSlice 23 (.int .i64 (m.length : Nat)) (.int .i64 (m.length : Nat))).run Try.prog wx = .ok (.slice (some ⟨wx.heap.size, 0, none⟩) m.length m.length) (wx.alloc (.cells (intsV (filS (wrtK m l m.length) 0)).toArray 3)) ∧ (wx.alloc (.cells (intsV (filS (wrtK m l m.length) 0)).toArray 3)).ownsRow wx.heap.size 3 1 (.slice (some ⟨wx.heap.size, 0, none⟩) m.length m.length) m.length (intsV (filS (wrtK m l m.length) 0)) from by
        have hmk := makeInts m.length (by omega) wx
        have h1 := row_whole6 wx (zerosR m.length) (by rw [zerosR_len]; omega)
        rw [zerosR_len] at h1
        rw [← h2] at hmk h1
        have h3 := h1.1
        rw [HLN.out 0 (by omega)] at h3
        exact ⟨hmk, h3⟩)
      clear hRL h2 HIS hI HR HL
      rw [HV.out]
      clear HV
      rw [hll] at HP ⊢
      generalize wrtK m l m.length = R at *
      generalize hn : m.length = n at *
      clear hn hll hl
      have hnb : ((n : Int) != (n : Int)) = false := by simp
      have hnb2 : ((n : Int) == (n : Int)) = true := by simp
      go_enter Try.func8, Try.ntmps8
      go_wp2_with fail
      refine HC.out.mono ?_
      rintro e w2 ⟨rfl, q, rfl⟩
      obtain ⟨hmk, ho1⟩ := H1.out (w.drewN q)
      have HO1 := Lib.hid ho1
      clear ho1 H1 HC
      go_wp2_with fail
      clear hmk
      go_loopw [22] (fun i' wr => ∃ (k : Nat) (wq : World), wq = wr ∧ k ≤ n ∧ i' = .int .i64 k ∧ wq.ownsRow w.heap.size 3 1 (.slice (some ⟨w.heap.size, 0, none⟩) n n) n (intsV (filS R k)) ∧ Below w.heap.size w wq ∧ w.heap.size < wq.heap.size) (fun i' _ => n - (intOf i').toNat)
      case atStart => exact ⟨0, _, rfl, Nat.zero_le _, rfl, HO1.out, (below_drewN q).alloc (Nat.le_refl _) _, by simp⟩
      case round =>
        obtain ⟨k, wq, rfl, hk, rfl, hown, hb, hsz⟩ := hrel
        have HO := Lib.hid hown; have HB := Lib.hid hb
        by_cases hlt : k < n
        · have hcell : ∃ c, wq.cell? ⟨w.heap.size, k, none⟩ = some c := ⟨_, (hown.cellAt k (by omega)).trans (List.getElem?_eq_getElem (by rw [intsV_len, HLN.out k hk]; exact hlt))⟩
          obtain ⟨c, hcell⟩ := hcell
          have hfz : wq.frozen? ⟨w.heap.size, k, none⟩ = false := hown.frozenAt k
          have HPK := Lib.hid (HP.out k hlt wq hb)
          have HGK := Lib.hid (HGET.out k hlt)
          obtain ⟨hst, hgs⟩ := hown.stored k (.int .i64 (R.getD k 0))
          rw [intsV_set, HSET.out k hlt] at hst
          have HST := Lib.hid hst
          have HBS := Lib.hid (hb.setCell (p := ⟨w.heap.size, k, none⟩) (Nat.le_refl _) (.int .i64 (R.getD k 0)))
          clear hst hgs hown hb
          rw [← HGK.out] at HPK
          clear HGK
          generalize R.getD k 0 = E at *
          have hd : decide (k < n) = true := decide_eq_true hlt
          go_wp2_with fail
          refine HPK.out.mono ?_
          rintro e w3 ⟨rfl, rfl⟩
          go_wp2_with fail
          exact ⟨⟨k + 1, _, rfl, by omega, by go_num, HST.out, HBS.out, by rw [World.size_setCell]; exact hsz⟩, by simp [intOf]; omega⟩
        · obtain rfl : k = n := by omega
          have hd : decide (k < k) = false := by simp
          go_wp2_with fail
          go_ret
          have hfin : RowI w.heap.size wq.heap.size wq (.slice (some ⟨w.heap.size, 0, none⟩) k k) R := by
            refine ⟨?_, fun g' hg' => ?_⟩
            · have h9 := HO.out; rw [HEND.out] at h9; rw [HRL.out]; exact h9
            · have : w.heap.size = g' := by simpa [Value.ownBlock] using hg'
              omega
          exact ⟨_, rfl, ⟨hfin, Nat.le_refl _⟩, HB.out⟩
    · have HV := Lib.hid (wrtL_no (m := m) (l := l) (fun h => hll h.2))
      rw [HV.out]
      have hnb : ((l.length : Int) == (m.length : Int)) = false := by rw [beq_eq_false_iff_ne]; omega
      have hnb2 : ((l.length : Int) != (m.length : Int)) = true := by rw [bne, hnb]; rfl
      clear HV HIS hI HR HL hll
      generalize m.length = n at *
      generalize l.length = nl at *
      go_enter Try.func8, Try.ntmps8
      go_wp2_with fail
      refine HC.out.mono ?_
      rintro e w2 ⟨rfl, q, rfl⟩
      go_wp2_with fail
      go_ret
      exact ⟨_, rfl, ⟨RowI.nil' _ _ _, Nat.le_refl _⟩, below_drewN q⟩
  · have HC := Lib.hid (HIS.out false (isB_no hI))
    have HV := Lib.hid (wrtL_no (m := m) (l := l) (fun h => hI h.1))
    rw [HV.out]
    clear HV HIS hI HR HL
    generalize m.length = n at *
    generalize l.length = nl at *
    go_enter Try.func8, Try.ntmps8
    go_wp2_with fail
    refine HC.out.mono ?_
    rintro e w2 ⟨rfl, q, rfl⟩
    go_wp2_with fail
    go_ret
    exact ⟨_, rfl, ⟨RowI.nil' _ _ _, Nat.le_refl _⟩, below_drewN q⟩
end Go.Proofs.Ytlbgblkoddlhnab
