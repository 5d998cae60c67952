/-
  Roots: what the model's SimpleRoot and WeightOfRoot return.
-/
import Derived.Test.YtlbgblkoddlhnabRsB
import Derived.Test.YtlbgblkoddlhnabTrI
namespace Go.Proofs.Ytlbgblkoddlhnab
open Go.RowKit

theorem unit_new (w1 : World) (n k : Nat) (hn : n ≤ 1048576) : RowI w1.heap.size (w1.alloc (.cells ((intsV (zerosR n)).set k (.int .i64 1)).toArray 3)).heap.size (w1.alloc (.cells ((intsV (zerosR n)).set k (.int .i64 1)).toArray 3)) (.slice (some ⟨w1.heap.size, 0, none⟩) n n) (unitR n k) := by
  have e : (intsV (zerosR n)).set k (.int .i64 1) = intsV (unitR n k) := by rw [intsV_set]; rfl
  have hl : (unitR n k).length = n := unitR_len n k
  rw [e]
  refine ⟨by rw [hl]; exact World.ownsRow_lit (base := w1.heap.size) (e := 3) (size := 1) w1 (intsV (unitR n k)).toArray n (Nat.le_refl _) (by unfold maxLen; omega) (by simp [intsV, hl]), fun g hg => ?_⟩
  have : w1.heap.size = g := by simpa [Value.ownBlock] using hg
  simp; omega
set_option maxHeartbeats 4000000 in
set_option maxRecDepth 100000 in
theorem wrts_any (B B' : Nat) (v v' : Value) (m : List (List Int)) (l : List Int) (w : World) (h : MatB B w v m) (h' : RowB B' w v' l) (hB : B ≤ w.heap.size) (hB' : B' ≤ w.heap.size) (hf : RowsFit m) (hl : l.length ≤ 1048576) :
    Calls Try.prog 5 #[v, v'] w (MakesS w (wrtL m l)) := by
  have HIS := Lib.hid (fun c (hc : isB m = c) (wx : World) (hb : Below w.heap.size w wx) => isc_w B v m c hc wx (h.below hb hB) hf)
  have hlm := hf.1
  have HR := Lib.hid h; have HL := Lib.hid h'
  obtain ⟨a, cap, rfl⟩ := h.slice
  obtain ⟨a', cap', rfl⟩ := h'.slice
  clear h h' hf
  unfold maxLen at hlm
  by_cases hok : IsC m ∧ l.length = m.length
  · have HV := Lib.hid (wrtL_yes hok)
    obtain ⟨hI, hll⟩ := hok
    have HC := Lib.hid (fun wx hb => HIS.out true (isB_yes hI) wx hb)
    have hn4 := hI.2.2.2
    have HRW := Lib.hid (show Rows0 m m.length m.length from hI.1)
    have HST := Lib.hid (fun i k => show prK m i l (k + 1) = addW (prK m i l k) (mulW (entry m i k) (l.getD k 0)) from rfl)
    have HWS := Lib.hid (wrtK_step m l); have HWL := Lib.hid (wrtK_len m l)
    rw [HV.out]
    clear HIS HV hI
    rw [hll] at HL ⊢
    have HLN := Lib.hid hll
    generalize hn : m.length = n at *
    have HN := Lib.hid hn
    clear hn hll hl
    go_enter Try.func5, Try.ntmps5
    go_wp2_with fail
    go_loopw [5, 6] (fun o i wr => ∃ (k : Nat) (wq : World), wq = wr ∧ k ≤ n ∧ i = .int .i64 k ∧ RowI w.heap.size wq.heap.size wq o (wrtK m l k) ∧ Below w.heap.size w wq) (fun _ i _ => n - (intOf i).toNat)
    case atStart => exact ⟨0, _, rfl, Nat.zero_le _, rfl, row_empty w, (Below.refl _ _).alloc (Nat.le_refl _) _⟩
    case round =>
      obtain ⟨k, wq, rfl, hk, rfl, hM, hb⟩ := hrel
      have HM := Lib.hid hM
      have HCQ := Lib.hid (HC.out wq hb)
      have hsq := hb.size
      have HB := Lib.hid hb
      clear hM hb
      by_cases hlt : k < n
      · have hd : decide (k < n) = true := decide_eq_true hlt
        go_wp2_with fail
        refine HCQ.out.mono ?_
        rintro e w1 ⟨rfl, hb1⟩
        have HM1 := Lib.hid (HM.out.step hb1)
        have HB1 := Lib.hid (HB.out.trans (hb1.mono hsq))
        have hs1 : w.heap.size ≤ w1.heap.size := HB1.out.size
        clear hb1
        have heq : ((n : Int) == (n : Int)) = true := by simp
        go_wp2_with fail
        go_loopw [7, 8] (fun s i' wr => ∃ (j q : Nat), wr = w1.drewN q ∧ j ≤ n ∧ i' = .int .i64 j ∧ s = .int .i64 (prK m k l j)) (fun _ i' _ => n - (intOf i').toNat)
        case atStart => exact ⟨0, 0, rfl, Nat.zero_le _, rfl, rfl⟩
        case round =>
          obtain ⟨j, q, rfl, hj, rfl, rfl⟩ := hrel
          have HBQ := Lib.hid (HB1.out.trans ((below_drewN (w := w1) q).mono hs1))
          by_cases hjn : j < n
          · have hd2 : decide (j < n) = true := decide_eq_true hjn
            obtain ⟨b, off, rb, roff, rcap, rfl, hc1, hx⟩ := (HR.out.below HB1.out hB).entry HRW.out hlt hjn
            obtain ⟨b', off', rfl, hbb, hy⟩ := (HL.out.below HB1.out hB').getD hjn
            have HE := Lib.hid (HST.out k j)
            clear hbb
            generalize hE : prK m k l (j + 1) = E at *
            have HQ := Lib.hid hE; clear hE
            generalize prK m k l j = s at *
            generalize l.getD j 0 = x at *
            generalize entry m k j = y at *
            obtain ⟨pr, hpr⟩ : ∃ pr, pr = mulW y x := ⟨_, rfl⟩
            have h1 : IntKind.i64.wrap (y * x) = pr := by rw [hpr, wrapk]; rfl
            have h2 : wrap64 (y * x) = pr := by rw [hpr]; rfl
            have h3 : IntKind.i64.wrap (s + pr) = E := by rw [HE.out, hpr, wrapk]; rfl
            have h4 : wrap64 (s + pr) = E := by rw [HE.out, hpr]; rfl
            clear hpr HE
            go_wp2_with fail
            go_quiet (fail)
            go_wp2_with fail
            exact ⟨⟨j + 1, q + nq, by first | rfl | exact World.drewN_drewN _ _ _, by omega, by go_num, by rw [HQ.out]⟩, by simp [intOf]; omega⟩
          · obtain rfl : j = n := by omega
            have hd2 : decide (j < j) = false := by simp
            have HRL := Lib.hid (show (wrtK m l k).length ≤ 4194304 by rw [HWL.out]; omega)
            have HS := Lib.hid (HWS.out k)
            have HMQ := Lib.hid (HM1.out.same (SameIn.of_below (below_drewN q) (Nat.le_refl _)))
            have hsq1 : w.heap.size ≤ (w1.drewN q).heap.size := hs1
            generalize prK m k l j = s at *
            go_wp2_with (at_builtin; go_must (refine append_int HMQ.out hsq1 s rfl rfl rfl rfl HRL.out ?_; intro v' w3 hr3 hb3 hz3))
            rw [HS.out] at hr3
            have HR3 := Lib.hid hr3
            have HB3 := Lib.hid (hb3 w w.heap.size (Nat.le_refl _) HBQ.out)
            clear hr3 hb3 hz3
            go_wp2_with fail
            exact ⟨⟨k + 1, _, rfl, by omega, by go_num, HR3.out, HB3.out⟩, by simp [intOf]; omega⟩
      · obtain rfl : k = n := by omega
        have hd : decide (k < k) = false := by simp
        go_wp2_with fail
        go_ret
        exact ⟨_, rfl, ⟨HM.out, Nat.le_refl _⟩, HB.out⟩
  · rw [wrtL_no hok]
    have hcase : (m.length = 0) ∨ (0 < m.length ∧ isB m = false) ∨ (0 < m.length ∧ isB m = true ∧ ((l.length : Int) == (m.length : Int)) = false) := by
      by_cases h0 : m.length = 0
      · exact Or.inl h0
      · by_cases hI : IsC m
        · refine Or.inr (Or.inr ⟨by omega, isB_yes hI, ?_⟩)
          rw [beq_eq_false_iff_ne]
          intro he
          exact hok ⟨hI, by omega⟩
        · exact Or.inr (Or.inl ⟨by omega, isB_no hI⟩)
    clear hok HR HL
    have HC := Lib.hid (fun c hc wx hb => HIS.out c hc wx hb)
    generalize isB m = ib at *
    generalize m.length = n at *
    generalize l.length = nl at *
    clear HIS
    go_enter Try.func5, Try.ntmps5
    go_wp2_with fail
    go_loopw [5, 6] (fun o i wr => i = .int .i64 0 ∧ o = .slice (some ⟨w.heap.size, 0, none⟩) 0 0 ∧ wr = w.alloc (.cells #[] 3)) (fun _ _ _ => 0)
    case atStart => exact ⟨rfl, rfl, rfl⟩
    case round =>
      obtain ⟨rfl, rfl, rfl⟩ := hrel
      have HB := Lib.hid (show Below w.heap.size w (w.alloc (.cells #[] 3)) from (Below.refl _ _).alloc (Nat.le_refl _) _)
      have HCQ := Lib.hid (HC.out _ rfl _ HB.out)
      rcases hcase with h0 | ⟨h0, hw⟩ | ⟨h0, hw, heq⟩
      · have hd : decide (0 < n) = false := decide_eq_false (by omega)
        clear h0
        go_wp2_with fail
        go_ret
        exact ⟨_, rfl, ⟨row_empty w, Nat.le_refl _⟩, HB.out⟩
      · subst hw
        have hd : decide (0 < n) = true := decide_eq_true h0
        go_wp2_with fail
        refine HCQ.out.mono ?_
        rintro e w2 ⟨rfl, hb2⟩
        have HB2 := Lib.hid hb2; clear hb2
        go_wp2_with fail
        go_ret
        exact ⟨_, rfl, ⟨(row_empty w).step HB2.out, Nat.le_refl _⟩, HB.out.trans (HB2.out.mono HB.out.size)⟩
      · subst hw
        have hd : decide (0 < n) = true := decide_eq_true h0
        go_wp2_with fail
        refine HCQ.out.mono ?_
        rintro e w2 ⟨rfl, hb2⟩
        have HB2 := Lib.hid hb2; clear hb2
        go_wp2_with fail
        go_ret
        exact ⟨_, rfl, ⟨(row_empty w).step HB2.out, Nat.le_refl _⟩, HB.out.trans (HB2.out.mono HB.out.size)⟩
end Go.Proofs.Ytlbgblkoddlhnab
