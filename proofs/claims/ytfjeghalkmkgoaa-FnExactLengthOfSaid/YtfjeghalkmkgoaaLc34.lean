/-
  WitnessOf, IsFinite and IsAffine of the model: what the calls return.
-/
import Derived.Test.YtfjeghalkmkgoaaLc33
namespace Go.Proofs.Ytfjeghalkmkgoaa
open Go.RowKit

set_option maxHeartbeats 4000000 in
set_option maxRecDepth 100000 in
theorem wits_any (B : Nat) (v : Value) (m : List (List Int)) (w : World) (h : MatB B w v m) (hB : B ≤ w.heap.size) (hf : RowsFit m) :
    Calls Try.prog 85 #[v] w (MakesS w (witV m)) := by
  obtain ⟨a, cap, rfl⟩ := h.slice
  have hl := hf.1
  have HR := Lib.hid h; clear h
  have HF := Lib.hid hf; clear hf
  by_cases hI : IsC m
  · have hn4 := hI.2.2.2
    have hn1 := hI.2.2.1
    have HC := Lib.hid (isB_yes hI)
    have HW0 := Lib.hid (fun (ht : witT m (2 ^ m.length - 1) = none) => witV_none hI ht)
    have HW1 := Lib.hid (fun t (ht : witT m (2 ^ m.length - 1) = some t) => witV_hit hI ht)
    have HMO := Lib.hid (fun t ht => minor_ok hI (t := t) ht)
    have HMP := Lib.hid (fun t => show minP m t = detF (setK (t + 1) m.length).length (pick m (intL (setK (t + 1) m.length))) from rfl)
    have hN15 := two_pow_le m.length hn4
    have HSG := Lib.hid (fun t (ht : t < 2 ^ m.length - 1) => show ((setsL m.length (2 ^ m.length - 1)).map intL).getD t [] = intL (setK (t + 1) m.length) by
      have h1 := setsL_get m.length _ t ht
      have h2 : t < (setsL m.length (2 ^ m.length - 1)).length := by rw [setsL_len]; exact ht
      have h3 : (setsL m.length (2 ^ m.length - 1)).getD t [] = (setsL m.length (2 ^ m.length - 1))[t] := by simp [List.getD, h2]
      rw [← h1, h3]
      simp [List.getD, h2])
    have HSL := Lib.hid (show ((setsL m.length (2 ^ m.length - 1)).map intL).length = 2 ^ m.length - 1 by rw [List.length_map, setsL_len])
    have HS4 := Lib.hid (fun w1 => sets4_any m.length (2 ^ m.length) w1 hn1 hn4 rfl)
    clear hI
    generalize witV m = R at *
    generalize hT : (setsL m.length (2 ^ m.length - 1)).map intL = T at *
    clear hT
    generalize 2 ^ m.length - 1 = N at *
    generalize hn : m.length = n at *
    have HN := Lib.hid hn; clear hn
    unfold maxLen at hl
    go_enter Try.func85, Try.ntmps85
    go_wp2_with fail
    refine (isc_w B _ m true HC.out _ HR.out HF.out).mono ?_
    rintro e w2 ⟨rfl, hb2⟩
    have HB2 := Lib.hid hb2
    have hs2 := hb2.size
    clear hb2
    go_wp2_with fail
    refine (HS4.out w2).mono ?_
    rintro e w3 ⟨x, rfl, hx, hb3⟩
    have HB3 := Lib.hid (HB2.out.trans (hb3.mono HB2.out.size))
    have hs3 := hb3.size
    obtain ⟨la, lcap, rfl⟩ := hx.1.slice
    rw [HSL.out] at hx ⊢
    have HX := Lib.hid hx.1
    clear hx hb3
    go_wp2_with fail
    go_loopw [4] (fun i wr => ∃ (t : Nat) (wq : World), wq = wr ∧ t ≤ N ∧ i = .int .i64 t ∧ Hid (witT m t = none) ∧ Below w3.heap.size w3 wq) (fun i _ => N - (intOf i).toNat)
    case atStart => exact ⟨0, _, rfl, Nat.zero_le _, rfl, Lib.hid rfl, Below.refl _ _⟩
    case round =>
      obtain ⟨t, wq, rfl, ht, rfl, hse, hbq⟩ := hrel
      have HBQ := Lib.hid hbq
      have hsq := hbq.size
      clear hbq
      by_cases hlt : t < N
      · have hlt' : decide (t < N) = true := decide_eq_true hlt
        obtain ⟨g1, g2, g3, g4, g5, g6⟩ := HMO.out t hlt
        have HMP' := Lib.hid (HMP.out t)
        have HSG' := Lib.hid (HSG.out t hlt)
        have HW1' := Lib.hid (HW1.out t)
        have HXQ := Lib.hid (HX.out.same (SameIn.of_below HBQ.out (Nat.le_refl _)))
        obtain ⟨lb, hv, rfl, hcell, hrow⟩ := HXQ.out.rowI4 (j := t) (by rw [HSL.out]; exact hlt)
        rw [HSG'.out] at hrow
        obtain ⟨ra, rcap, rfl⟩ := hrow.slice
        have HROW := Lib.hid hrow; clear hrow
        have hlb : lb < w3.heap.size := by
          obtain ⟨hs9, q1, q2, _⟩ := HX.out
          exact q2 lb rfl
        have HG1 := Lib.hid g1; have HG2 := Lib.hid g2; have HG4 := Lib.hid g4; have HG5 := Lib.hid g5; have HG6 := Lib.hid g6
        clear g1 g2 g4 g5 g6
        have HCELL := Lib.hid hcell
        have HBw := Lib.hid (HB3.out.trans (HBQ.out.mono (by omega)))
        generalize setK (t + 1) n = q at *
        generalize hrl : (intL q).length = rl at *
        have hrl' : rl = q.length := by rw [← hrl]; exact intL_len q
        have HRL := Lib.hid hrl
        have HRL' := Lib.hid hrl'
        have hq4 : rl ≤ 4 := by omega
        clear hrl hrl' g3
        have hBw : B ≤ wq.heap.size := by omega
        go_wp2_with fail
        refine (subs_any B w3.heap.size _ _ m (intL q) wq (HR.out.below HBw.out hB) HROW.out.rowB hBw hsq HF.out (by rw [HRL.out]; unfold maxLen; omega)).mono ?_
        rintro e w4 ⟨y, rfl, hy, hb4⟩
        rw [HG1.out] at hy
        rw [HG2.out]
        have HY := Lib.hid hy
        have HB4 := Lib.hid (HBQ.out.trans (hb4.mono hsq))
        have hs4 := hb4.size
        clear hy hb4 hcell
        go_wp2_with fail
        refine (det_any q.length _ y (pick m (intL q)) w4 (by have := HRL'.out; omega) HY.out.matB (Nat.le_refl _) HG4.out HG5.out HG6.out).mono ?_
        rintro e w5 ⟨rfl, hb5⟩
        rw [← HMP'.out]
        have HB5 := Lib.hid (HB4.out.trans (hb5.mono (by omega)))
        have hs5 := hb5.size
        clear hb5
        by_cases hneg : minP m t ≤ 0
        · have HQ := Lib.hid (HW1'.out (witT_hit hse.out hneg N hlt))
          have hneg' : decide (minP m t ≤ 0) = true := decide_eq_true hneg
          generalize minP m t = mp at *
          have hcell5 : w5.cell? ⟨lb, t, none⟩ = some (.slice ra rl rcap) := by
            have h6 := HB5.out.cell (p := ⟨lb, t, none⟩) hlb
            have h7 := HBQ.out.cell (p := ⟨lb, t, none⟩) hlb
            rw [h6, ← h7]; exact HCELL.out
          have HROW5 := Lib.hid (HROW.out.same (fun k _ hk => (HB5.out.block k hk).trans (HBQ.out.block k hk).symm))
          have HBw5 := Lib.hid (HB3.out.trans (HB5.out.mono (by omega)))
          go_wp2_with fail
          go_ret
          exact ⟨_, rfl, by rw [HQ.out]; exact ⟨HROW5.out.mono hs2 (by omega), Nat.le_refl _⟩, HBw5.out⟩
        · have HST := Lib.hid (witT_step_no hse.out hneg)
          have hneg' : decide (minP m t ≤ 0) = false := decide_eq_false hneg
          generalize minP m t = mp at *
          go_wp2_with fail
          exact ⟨⟨t + 1, _, rfl, by omega, by go_num, HST, HB5.out⟩, by simp [intOf]; omega⟩
      · obtain rfl : N = t := by omega
        have hlt' : decide (N < N) = false := by simp
        have HQ := Lib.hid (HW0.out hse.out)
        have HBw := Lib.hid (HB3.out.trans (HBQ.out.mono (by omega)))
        go_wp2_with fail
        go_ret
        exact makesS_nil HQ.out ((row_empty wq).mono HBw.out.size (Nat.le_refl _)) (HBw.out.alloc HBw.out.size _)
  · have HC := Lib.hid (isB_no hI)
    have HV := Lib.hid (witV_no hI)
    clear hI
    generalize witV m = R at *
    generalize hn : m.length = n at *
    have HN := Lib.hid hn; clear hn
    unfold maxLen at hl
    go_enter Try.func85, Try.ntmps85
    go_wp2_with fail
    refine (isc_w B _ m false HC.out _ HR.out HF.out).mono ?_
    rintro e w2 ⟨rfl, hb2⟩
    have HB2 := Lib.hid hb2; clear hb2
    go_wp2_with fail
    go_ret
    exact makesS_nil HV.out ((row_empty w2).mono HB2.out.size (Nat.le_refl _)) (HB2.out.alloc HB2.out.size _)

/-! ### IsFinite -/
open Classical in
noncomputable def finB (m : List (List Int)) : Bool := decide (IsC m ∧ (witV m).length = 0)
open Classical in
theorem finB_yes {m : List (List Int)} (h : IsC m) : finB m = decide ((witV m).length = 0) := by
  unfold finB
  rw [decide_eq_decide]
  exact ⟨fun h => h.2, fun h' => ⟨h, h'⟩⟩
open Classical in
theorem finB_no {m : List (List Int)} (h : ¬ IsC m) : finB m = false := decide_eq_false (fun hh => h hh.1)
theorem len_int0 (L : Nat) : ((L : Int) == 0) = decide (L = 0) := by
  by_cases h : L = 0
  · subst h; rfl
  · rw [decide_eq_false h, beq_eq_false_iff_ne]; omega

set_option maxHeartbeats 1000000 in
set_option maxRecDepth 100000 in
theorem fins_any (B : Nat) (v : Value) (m : List (List Int)) (w : World) (h : MatB B w v m) (hB : B ≤ w.heap.size) (hf : RowsFit m) :
    Calls Try.prog 61 #[v] w fun e w' => e = .returned (.bool (finB m)) ∧ Below w.heap.size w w' := by
  have HWI := Lib.hid (fun w1 (hb : Below w.heap.size w w1) => wits_any B v m w1 (h.below hb hB) (Nat.le_trans hB hb.size) hf)
  have HR := Lib.hid h; clear h
  by_cases hI : IsC m
  · have HC := Lib.hid (isB_yes hI)
    have HV := Lib.hid (finB_yes hI)
    have HL := Lib.hid (len_int0 (witV m).length)
    clear hI
    generalize finB m = c at *
    go_enter Try.func61, Try.ntmps61
    go_wp2_with fail
    refine (isc_w B _ m true HC.out _ HR.out hf).mono ?_
    rintro e w1 ⟨rfl, hb1⟩
    have HB1 := Lib.hid hb1; clear hb1
    go_wp2_with fail
    refine (HWI.out w1 HB1.out).mono ?_
    rintro e w2 ⟨x, rfl, hx, hb2⟩
    obtain ⟨xa, xcap, rfl⟩ := hx.1.slice
    have HB2 := Lib.hid (HB1.out.trans (hb2.mono HB1.out.size))
    clear hx hb2
    generalize hpl : (witV m).length = L at *
    have HPL := Lib.hid hpl; clear hpl
    go_wp2_with fail
    go_ret
    exact ⟨ret_boolean (by rw [HV.out]; exact HL.out), HB2.out⟩
  · have HC := Lib.hid (isB_no hI)
    have HV := Lib.hid (finB_no hI)
    clear hI
    generalize finB m = c at *
    go_enter Try.func61, Try.ntmps61
    go_wp2_with fail
    refine (isc_w B _ m false HC.out _ HR.out hf).mono ?_
    rintro e w1 ⟨rfl, hb1⟩
    have HB1 := Lib.hid hb1; clear hb1
    go_wp2_with fail
    go_ret
    exact ⟨ret_boolean HV.out.symm, HB1.out⟩
end Go.Proofs.Ytfjeghalkmkgoaa
