/-
  The program's WitnessOf and IsFinite: what the calls return.
-/
import Derived.Test.YtgpcacgafbhhdaaMinI
import Derived.Test.YtgpcacgafbhhdaaWit
namespace Go.Proofs.Ytgpcacgafbhhdaa
open Go.RowKit

theorem minK_get (m : List (List Int)) (k t : Nat) (h : t < k) : (minK m k).getD t 0 = minP m t := by simp [minK, List.getD, h]
set_option maxHeartbeats 4000000 in
set_option maxRecDepth 100000 in
theorem witi_any (B : Nat) (v : Value) (m : List (List Int)) (w : World) (h : MatB B w v m) (hB : B ≤ w.heap.size) (hf : RowsFit m) :
    Calls Try.prog 24 #[v] w (MakesS w (witV m)) := by
  have HPM := Lib.hid (pmini_any B v m w h hB hf)
  obtain ⟨L, hL, hL15, hget, hhit, hnone⟩ : ∃ L, (minV m).length = L ∧ L ≤ 15 ∧ (∀ t, t < L → (minV m).getD t 0 = minP m t) ∧ (∀ t, witT m t = none → minP m t ≤ 0 → t < L → witV m = intL (setK (t + 1) 4) ∧ t + 1 < 16) ∧ (witT m L = none → witV m = []) := by
    by_cases hI : IsC m
    · have hn4 := hI.2.2.2
      have h15 := two_pow_le m.length hn4
      refine ⟨2 ^ m.length - 1, by rw [minV_yes hI, minK_len], h15, fun t ht => by rw [minV_yes hI, minK_get _ _ _ ht], fun t h1 h2 h3 => ⟨?_, by omega⟩, fun h1 => witV_none hI h1⟩
      rw [witV_hit hI (witT_hit h1 h2 _ h3), setK_four m.length hn4 (t + 1) (by omega)]
    · refine ⟨0, by rw [minV_no hI]; rfl, by omega, fun t ht => absurd ht (Nat.not_lt_zero _), fun t _ _ h => absurd h (Nat.not_lt_zero _), fun _ => witV_no hI⟩
  have HL := Lib.hid hL; have HGET := Lib.hid hget; have HHIT := Lib.hid hhit; have HNONE := Lib.hid hnone
  clear h hL hget hhit hnone
  generalize minV m = M at *
  generalize witV m = R at *
  go_enter Try.func24, Try.ntmps24
  go_wp2_with fail
  refine HPM.out.mono ?_
  rintro e w1 ⟨x, rfl, hx, hb1⟩
  obtain ⟨xa, xcap, rfl⟩ := hx.1.slice
  rw [HL.out] at hx ⊢
  have HX := Lib.hid hx.1
  have HB1 := Lib.hid hb1
  have hs1 := hb1.size
  clear hx hb1
  go_wp2_with fail
  go_loopw [8] (fun i wr => ∃ t : Nat, t ≤ L ∧ i = .int .i64 t ∧ wr = w1 ∧ Hid (witT m t = none)) (fun i _ => L - (intOf i).toNat)
  case atStart => exact ⟨0, Nat.zero_le _, rfl, rfl, Lib.hid rfl⟩
  case round =>
    obtain ⟨t, ht, rfl, rfl, hse⟩ := hrel
    by_cases hlt : t < L
    · have hlt' : decide (t < L) = true := decide_eq_true hlt
      obtain ⟨lb, loff, rfl, hlb, hlc⟩ := HX.out.rowB.getD (j := t) hlt
      rw [HGET.out t hlt] at hlc
      by_cases hneg : minP m t ≤ 0
      · obtain ⟨hR, h16⟩ := HHIT.out t hse.out hneg hlt
        have hneg' : decide (minP m t ≤ 0) = true := decide_eq_true hneg
        have hptb := ptb_any (t + 1) wr h16
        rw [← hR, show ((t + 1 : Nat) : Int) = (t : Int) + 1 by omega] at hptb
        have HPTB := Lib.hid hptb
        clear hR hptb hneg
        generalize minP m t = mp at *
        go_wp2_with fail
        refine HPTB.out.mono ?_
        rintro e w4 ⟨y, rfl, hy, hb4⟩
        have HY := Lib.hid (hy.1.mono hs1 (Nat.le_refl _))
        have HB4 := Lib.hid (HB1.out.trans (hb4.mono hs1))
        clear hy hb4
        go_wp2_with fail
        go_ret
        exact ⟨_, rfl, ⟨HY.out, Nat.le_refl _⟩, HB4.out⟩
      · have HST := Lib.hid (witT_step_no hse.out hneg)
        have hneg' : decide (minP m t ≤ 0) = false := decide_eq_false hneg
        generalize minP m t = mp at *
        go_wp2_with fail
        exact ⟨⟨t + 1, by omega, by go_num, trivial, HST⟩, by simp [intOf]; omega⟩
    · obtain rfl : L = t := by omega
      have hlt' : decide (L < L) = false := by simp
      have HQ := Lib.hid (HNONE.out hse.out)
      go_wp2_with fail
      go_ret
      exact makesS_nil HQ.out (RowI.nil _ _ _) HB1.out

set_option maxHeartbeats 1000000 in
set_option maxRecDepth 100000 in
theorem fini_any (B : Nat) (v : Value) (m : List (List Int)) (w : World) (h : MatB B w v m) (hB : B ≤ w.heap.size) (hf : RowsFit m) :
    Calls Try.prog 20 #[v] w fun e w' => e = .returned (.bool (finB m)) ∧ Below w.heap.size w w' := by
  have HWI := Lib.hid (fun w1 (hb : Below w.heap.size w w1) => witi_any B v m w1 (h.below hb hB) (Nat.le_trans hB hb.size) hf)
  have HR := Lib.hid h; clear h
  by_cases hI : IsC m
  · have HC := Lib.hid (isB_yes hI)
    have HV := Lib.hid (finB_yes hI)
    have HL := Lib.hid (len_int0 (witV m).length)
    clear hI
    generalize finB m = c at *
    go_enter Try.func20, Try.ntmps20
    go_wp2_with fail
    refine (icm_w B _ m true HC.out _ HR.out hf).mono ?_
    rintro e w1 ⟨rfl, hb1⟩
    have HB1 := Lib.hid hb1; clear hb1
    go_wp2_with fail
    refine (HWI.out w1 HB1.out).mono ?_
    rintro e w2 ⟨x, rfl, hx, hb2⟩
    obtain ⟨xa, xcap, rfl⟩ := hx.1.slice
    have HB2 := Lib.hid (HB1.out.trans (hb2.mono HB1.out.size))
    clear hx hb2
    generalize hpl : (witV m).length = L at *
    have HPL := Lib.hid hpl; clear hpl
    go_wp2_with fail
    go_ret
    exact ⟨ret_boolean (by rw [HV.out]; exact HL.out), HB2.out⟩
  · have HC := Lib.hid (isB_no hI)
    have HV := Lib.hid (finB_no hI)
    clear hI
    generalize finB m = c at *
    go_enter Try.func20, Try.ntmps20
    go_wp2_with fail
    refine (icm_w B _ m false HC.out _ HR.out hf).mono ?_
    rintro e w1 ⟨rfl, hb1⟩
    have HB1 := Lib.hid hb1; clear hb1
    go_wp2_with fail
    go_ret
    exact ⟨ret_boolean HV.out.symm, HB1.out⟩
end Go.Proofs.Ytgpcacgafbhhdaa
