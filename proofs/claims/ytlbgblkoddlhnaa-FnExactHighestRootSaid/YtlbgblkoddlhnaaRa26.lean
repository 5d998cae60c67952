/-
  WitnessOf, IsFinite and IsAffine of the model: what the calls return.
  Roots: what the model's RootsUpTo, PositiveRoots and HighestRoot return.
  The last step of every law (over any program): a call that only made new memory and answered true leaves its arguments reading as they read.
  Two closed facts of this seat's program.
-/
import Derived.Test.YtlbgblkoddlhnaaRa24
import Derived.Test.YtlbgblkoddlhnaaRa25
import Derived.Test.YtlbgblkoddlhnaaRa18
import Derived.ProofKit
import Derived.Test.YtlbgblkoddlhnaaRows
namespace Go.Proofs.Ytlbgblkoddlhnaa
open Go.RowKit

set_option maxHeartbeats 4000000 in
set_option maxRecDepth 100000 in
theorem wits_any (B : Nat) (v : Value) (m : List (List Int)) (w : World) (h : MatB B w v m) (hB : B ≤ w.heap.size) (hf : RowsFit m) :
    Calls Try.prog 76 #[v] w (MakesS w (witV m)) := by
  obtain ⟨a, cap, rfl⟩ := h.slice
  have hl := hf.1
  have HR := Lib.hid h; clear h
  have HF := Lib.hid hf; clear hf
  by_cases hI : IsC m
  · have hn4 := hI.2.2.2
    have hn1 := hI.2.2.1
    have HC := Lib.hid (isB_yes hI)
    have HW0 := Lib.hid (fun (ht : witT m (2 ^ m.length - 1) = none) => witV_none hI ht)
    have HW1 := Lib.hid (fun t (ht : witT m (2 ^ m.length - 1) = some t) => witV_hit hI ht)
    have HMO := Lib.hid (fun t ht => minor_ok hI (t := t) ht)
    have HMP := Lib.hid (fun t => show minP m t = detF (setK (t + 1) m.length).length (pick m (intL (setK (t + 1) m.length))) from rfl)
    have hN15 := two_pow_le m.length hn4
    have HSG := Lib.hid (fun t (ht : t < 2 ^ m.length - 1) => show ((setsL m.length (2 ^ m.length - 1)).map intL).getD t [] = intL (setK (t + 1) m.length) by
      have h1 := setsL_get m.length _ t ht
      have h2 : t < (setsL m.length (2 ^ m.length - 1)).length := by rw [setsL_len]; exact ht
      have h3 : (setsL m.length (2 ^ m.length - 1)).getD t [] = (setsL m.length (2 ^ m.length - 1))[t] := by simp [List.getD, h2]
      rw [← h1, h3]
      simp [List.getD, h2])
    have HSL := Lib.hid (show ((setsL m.length (2 ^ m.length - 1)).map intL).length = 2 ^ m.length - 1 by rw [List.length_map, setsL_len])
    have HS4 := Lib.hid (fun w1 => sets4_any m.length (2 ^ m.length) w1 hn1 hn4 rfl)
    clear hI
    generalize witV m = R at *
    generalize hT : (setsL m.length (2 ^ m.length - 1)).map intL = T at *
    clear hT
    generalize 2 ^ m.length - 1 = N at *
    generalize hn : m.length = n at *
    have HN := Lib.hid hn; clear hn
    unfold maxLen at hl
    go_enter Try.func76, Try.ntmps76
    go_wp2_with fail
    refine (isc_w B _ m true HC.out _ HR.out HF.out).mono ?_
    rintro e w2 ⟨rfl, hb2⟩
    have HB2 := Lib.hid hb2
    have hs2 := hb2.size
    clear hb2
    go_wp2_with fail
    refine (HS4.out w2).mono ?_
    rintro e w3 ⟨x, rfl, hx, hb3⟩
    have HB3 := Lib.hid (HB2.out.trans (hb3.mono HB2.out.size))
    have hs3 := hb3.size
    obtain ⟨la, lcap, rfl⟩ := hx.1.slice
    rw [HSL.out] at hx ⊢
    have HX := Lib.hid hx.1
    clear hx hb3
    go_wp2_with fail
    go_loopw [4] (fun i wr => ∃ (t : Nat) (wq : World), wq = wr ∧ t ≤ N ∧ i = .int .i64 t ∧ Hid (witT m t = none) ∧ Below w3.heap.size w3 wq) (fun i _ => N - (intOf i).toNat)
    case atStart => exact ⟨0, _, rfl, Nat.zero_le _, rfl, Lib.hid rfl, Below.refl _ _⟩
    case round =>
      obtain ⟨t, wq, rfl, ht, rfl, hse, hbq⟩ := hrel
      have HBQ := Lib.hid hbq
      have hsq := hbq.size
      clear hbq
      by_cases hlt : t < N
      · have hlt' : decide (t < N) = true := decide_eq_true hlt
        obtain ⟨g1, g2, g3, g4, g5, g6⟩ := HMO.out t hlt
        have HMP' := Lib.hid (HMP.out t)
        have HSG' := Lib.hid (HSG.out t hlt)
        have HW1' := Lib.hid (HW1.out t)
        have HXQ := Lib.hid (HX.out.same (SameIn.of_below HBQ.out (Nat.le_refl _)))
        obtain ⟨lb, hv, rfl, hcell, hrow⟩ := HXQ.out.rowI4 (j := t) (by rw [HSL.out]; exact hlt)
        rw [HSG'.out] at hrow
        obtain ⟨ra, rcap, rfl⟩ := hrow.slice
        have HROW := Lib.hid hrow; clear hrow
        have hlb : lb < w3.heap.size := by
          obtain ⟨hs9, q1, q2, _⟩ := HX.out
          exact q2 lb rfl
        have HG1 := Lib.hid g1; have HG2 := Lib.hid g2; have HG4 := Lib.hid g4; have HG5 := Lib.hid g5; have HG6 := Lib.hid g6
        clear g1 g2 g4 g5 g6
        have HCELL := Lib.hid hcell
        have HBw := Lib.hid (HB3.out.trans (HBQ.out.mono (by omega)))
        generalize setK (t + 1) n = q at *
        generalize hrl : (intL q).length = rl at *
        have hrl' : rl = q.length := by rw [← hrl]; exact intL_len q
        have HRL := Lib.hid hrl
        have HRL' := Lib.hid hrl'
        have hq4 : rl ≤ 4 := by omega
        clear hrl hrl' g3
        have hBw : B ≤ wq.heap.size := by omega
        go_wp2_with fail
        refine (subs_any B w3.heap.size _ _ m (intL q) wq (HR.out.below HBw.out hB) HROW.out.rowB hBw hsq HF.out (by rw [HRL.out]; unfold maxLen; omega)).mono ?_
        rintro e w4 ⟨y, rfl, hy, hb4⟩
        rw [HG1.out] at hy
        rw [HG2.out]
        have HY := Lib.hid hy
        have HB4 := Lib.hid (HBQ.out.trans (hb4.mono hsq))
        have hs4 := hb4.size
        clear hy hb4 hcell
        go_wp2_with fail
        refine (det_any q.length _ y (pick m (intL q)) w4 (by have := HRL'.out; omega) HY.out.matB (Nat.le_refl _) HG4.out HG5.out HG6.out).mono ?_
        rintro e w5 ⟨rfl, hb5⟩
        rw [← HMP'.out]
        have HB5 := Lib.hid (HB4.out.trans (hb5.mono (by omega)))
        have hs5 := hb5.size
        clear hb5
        by_cases hneg : minP m t ≤ 0
        · have HQ := Lib.hid (HW1'.out (witT_hit hse.out hneg N hlt))
          have hneg' : decide (minP m t ≤ 0) = true := decide_eq_true hneg
          generalize minP m t = mp at *
          have hcell5 : w5.cell? ⟨lb, t, none⟩ = some (.slice ra rl rcap) := by
            have h6 := HB5.out.cell (p := ⟨lb, t, none⟩) hlb
            have h7 := HBQ.out.cell (p := ⟨lb, t, none⟩) hlb
            rw [h6, ← h7]; exact HCELL.out
          have HROW5 := Lib.hid (HROW.out.same (fun k _ hk => (HB5.out.block k hk).trans (HBQ.out.block k hk).symm))
          have HBw5 := Lib.hid (HB3.out.trans (HB5.out.mono (by omega)))
          go_wp2_with fail
          go_ret
          exact ⟨_, rfl, by rw [HQ.out]; exact ⟨HROW5.out.mono hs2 (by omega), Nat.le_refl _⟩, HBw5.out⟩
        · have HST := Lib.hid (witT_step_no hse.out hneg)
          have hneg' : decide (minP m t ≤ 0) = false := decide_eq_false hneg
          generalize minP m t = mp at *
          go_wp2_with fail
          exact ⟨⟨t + 1, _, rfl, by omega, by go_num, HST, HB5.out⟩, by simp [intOf]; omega⟩
      · obtain rfl : N = t := by omega
        have hlt' : decide (N < N) = false := by simp
        have HQ := Lib.hid (HW0.out hse.out)
        have HBw := Lib.hid (HB3.out.trans (HBQ.out.mono (by omega)))
        go_wp2_with fail
        go_ret
        exact makesS_nil HQ.out ((row_empty wq).mono HBw.out.size (Nat.le_refl _)) (HBw.out.alloc HBw.out.size _)
  · have HC := Lib.hid (isB_no hI)
    have HV := Lib.hid (witV_no hI)
    clear hI
    generalize witV m = R at *
    generalize hn : m.length = n at *
    have HN := Lib.hid hn; clear hn
    unfold maxLen at hl
    go_enter Try.func76, Try.ntmps76
    go_wp2_with fail
    refine (isc_w B _ m false HC.out _ HR.out HF.out).mono ?_
    rintro e w2 ⟨rfl, hb2⟩
    have HB2 := Lib.hid hb2; clear hb2
    go_wp2_with fail
    go_ret
    exact makesS_nil HV.out ((row_empty w2).mono HB2.out.size (Nat.le_refl _)) (HB2.out.alloc HB2.out.size _)

/-! ### IsFinite -/
open Classical in
noncomputable def finB (m : List (List Int)) : Bool := decide (IsC m ∧ (witV m).length = 0)
open Classical in
theorem finB_yes {m : List (List Int)} (h : IsC m) : finB m = decide ((witV m).length = 0) := by
  unfold finB
  rw [decide_eq_decide]
  exact ⟨fun h => h.2, fun h' => ⟨h, h'⟩⟩
open Classical in
theorem finB_no {m : List (List Int)} (h : ¬ IsC m) : finB m = false := decide_eq_false (fun hh => h hh.1)
theorem len_int0 (L : Nat) : ((L : Int) == 0) = decide (L = 0) := by
  by_cases h : L = 0
  · subst h; rfl
  · rw [decide_eq_false h, beq_eq_false_iff_ne]; omega

set_option maxHeartbeats 1000000 in
set_option maxRecDepth 100000 in
theorem fins_any (B : Nat) (v : Value) (m : List (List Int)) (w : World) (h : MatB B w v m) (hB : B ≤ w.heap.size) (hf : RowsFit m) :
    Calls Try.prog 59 #[v] w fun e w' => e = .returned (.bool (finB m)) ∧ Below w.heap.size w w' := by
  have HWI := Lib.hid (fun w1 (hb : Below w.heap.size w w1) => wits_any B v m w1 (h.below hb hB) (Nat.le_trans hB hb.size) hf)
  have HR := Lib.hid h; clear h
  by_cases hI : IsC m
  · have HC := Lib.hid (isB_yes hI)
    have HV := Lib.hid (finB_yes hI)
    have HL := Lib.hid (len_int0 (witV m).length)
    clear hI
    generalize finB m = c at *
    go_enter Try.func59, Try.ntmps59
    go_wp2_with fail
    refine (isc_w B _ m true HC.out _ HR.out hf).mono ?_
    rintro e w1 ⟨rfl, hb1⟩
    have HB1 := Lib.hid hb1; clear hb1
    go_wp2_with fail
    refine (HWI.out w1 HB1.out).mono ?_
    rintro e w2 ⟨x, rfl, hx, hb2⟩
    obtain ⟨xa, xcap, rfl⟩ := hx.1.slice
    have HB2 := Lib.hid (HB1.out.trans (hb2.mono HB1.out.size))
    clear hx hb2
    generalize hpl : (witV m).length = L at *
    have HPL := Lib.hid hpl; clear hpl
    go_wp2_with fail
    go_ret
    exact ⟨ret_boolean (by rw [HV.out]; exact HL.out), HB2.out⟩
  · have HC := Lib.hid (isB_no hI)
    have HV := Lib.hid (finB_no hI)
    clear hI
    generalize finB m = c at *
    go_enter Try.func59, Try.ntmps59
    go_wp2_with fail
    refine (isc_w B _ m false HC.out _ HR.out hf).mono ?_
    rintro e w1 ⟨rfl, hb1⟩
    have HB1 := Lib.hid hb1; clear hb1
    go_wp2_with fail
    go_ret
    exact ⟨ret_boolean HV.out.symm, HB1.out⟩
end Go.Proofs.Ytlbgblkoddlhnaa
namespace Go.Proofs.Ytlbgblkoddlhnaa
open Go.RowKit

theorem ownR_nil {w w' : World} (_h : Below w.heap.size w w') : OwnR w.heap.size (w'.alloc (.cells #[] 23)).heap.size (w'.alloc (.cells #[] 23)) (.slice (some ⟨w'.heap.size, 0, none⟩) 0 0) [] :=
  ⟨fun _ _ => Or.inl ⟨rfl, _, _, rfl⟩, Nat.le_refl _⟩
set_option maxHeartbeats 4000000 in
set_option maxRecDepth 100000 in
theorem ruts_any (B : Nat) (v : Value) (m : List (List Int)) (h : Int) (w : World) (hM : MatB B w v m) (hB : B ≤ w.heap.size) (hf : RowsFit m) :
    Calls Try.prog 41 #[v, .int .i64 h] w fun e w' => MakesK w (rutL m h) e w' ∧ (RutOk m h → IsRoots m h (rutL m h)) := by
  by_cases hok : RutOk m h
  · exact (ruts_yes B v m h w hM hB hf hok).mono fun e w' h => ⟨h.1, fun _ => h.2⟩
  · have hb0 : Below w.heap.size w (w.alloc (.cells #[] 23)) := (Below.refl _ _).alloc (Nat.le_refl _) _
    have HV := Lib.hid (rutL_no hok)
    obtain ⟨a, cap, rfl⟩ := hM.slice
    have HNO := Lib.hid hok
    rw [HV.out]
    by_cases hI : IsC m
    · have HC := Lib.hid (isc_w B _ m true (isB_yes hI) _ (hM.below hb0 hB) hf)
      have HIN := Lib.hid (inB_no (x := h) (a := 1) (b := 12) (fun hi => hok ⟨hI, hi⟩))
      clear hM hf hok hI hb0 HV
      generalize m.length = n at *
      go_enter Try.func41, Try.ntmps41
      go_wp2_with fail
      refine HC.out.mono ?_
      rintro e w1 ⟨rfl, hb1⟩
      have hba : Below w.heap.size w w1 := ((Below.refl w.heap.size w).alloc (Nat.le_refl _) _).trans (hb1.mono (by simp))
      have HB1 := Lib.hid hba
      have HM1 := Lib.hid ((MatA.empty w.heap.size w).step hb1)
      clear hb1 hba
      go_wp2_with fail
      refine (l1in_c _ _ _ false HIN.out _).mono ?_
      rintro e w' ⟨rfl, rfl⟩
      go_wp2_with fail
      go_ret
      exact ⟨⟨_, rfl, HM1.out.ownR, HB1.out⟩, fun h => absurd h HNO.out⟩
    · have HC := Lib.hid (isc_w B _ m false (isB_no hI) _ (hM.below hb0 hB) hf)
      clear hM hf hok hI hb0 HV
      generalize m.length = n at *
      go_enter Try.func41, Try.ntmps41
      go_wp2_with fail
      refine HC.out.mono ?_
      rintro e w1 ⟨rfl, hb1⟩
      have hba : Below w.heap.size w w1 := ((Below.refl w.heap.size w).alloc (Nat.le_refl _) _).trans (hb1.mono (by simp))
      have HB1 := Lib.hid hba
      have HM1 := Lib.hid ((MatA.empty w.heap.size w).step hb1)
      clear hb1 hba
      go_wp2_with fail
      go_ret
      exact ⟨⟨_, rfl, HM1.out.ownR, HB1.out⟩, fun h => absurd h HNO.out⟩

open Classical in
theorem fin_isC {m : List (List Int)} (h : finB m = true) : IsC m := (of_decide_eq_true h).1
noncomputable def posL (m : List (List Int)) : List (List Int) := if finB m = true then rutL m 12 else []
theorem posL_yes {m : List (List Int)} (h : finB m = true) : posL m = rutL m 12 := if_pos h
theorem posL_no {m : List (List Int)} (h : finB m = false) : posL m = [] := by unfold posL; rw [h]; rfl
theorem posL_small (m : List (List Int)) : szSum (posL m) ≤ 1048576 := by
  cases h : finB m with
  | true => rw [posL_yes h]; exact rutL_small _ _
  | false => rw [posL_no h]; decide
set_option maxHeartbeats 4000000 in
set_option maxRecDepth 100000 in
theorem poss_any (B : Nat) (v : Value) (m : List (List Int)) (w : World) (hM : MatB B w v m) (hB : B ≤ w.heap.size) (hf : RowsFit m) :
    Calls Try.prog 38 #[v] w fun e w' => MakesK2 w (posL m) (.bool (finB m)) e w' ∧ (finB m = true → IsRoots m 12 (rutL m 12)) := by
  have HF := Lib.hid (fins_any B v m w hM hB hf)
  have HR := Lib.hid (fun (wx : World) (hb : Below w.heap.size w wx) => ruts_any B v m 12 wx (hM.below hb hB) (Nat.le_trans hB hb.size) hf)
  have HY := Lib.hid (fun h => posL_yes (m := m) h)
  have HN := Lib.hid (fun h => posL_no (m := m) h)
  clear hM hf
  have HOK := Lib.hid (fun h => (⟨fin_isC (m := m) h, by omega, by omega⟩ : RutOk m 12))
  generalize finB m = fb at *
  generalize posL m = R at *
  generalize rutL m 12 = L at *
  cases fb with
  | true =>
    have HV := Lib.hid (HY.out rfl)
    clear HY HN
    go_enter Try.func38, Try.ntmps38
    go_wp2_with fail
    refine HF.out.mono ?_
    rintro e w1 ⟨rfl, hb1⟩
    have HB1 := Lib.hid hb1
    have HRX := Lib.hid (HR.out w1 hb1)
    clear hb1
    go_wp2_with fail
    refine HRX.out.mono ?_
    rintro e w2 ⟨⟨x, rfl, hx, hb2⟩, hir⟩
    have HIR := Lib.hid (hir (HOK.out trivial)); clear hir
    have HX := Lib.hid hx
    have HB2 := Lib.hid (HB1.out.trans (hb2.mono HB1.out.size))
    clear hx hb2
    go_wp2_with fail
    go_ret2
    exact ⟨⟨_, rfl, ⟨fun w' hs => by rw [HV.out]; exact HX.out.1 w' (fun k h1 h2 => hs k (Nat.le_trans HB1.out.size h1) h2), Nat.le_refl _⟩, HB2.out⟩, fun _ => HIR.out⟩
  | false =>
    have HV := Lib.hid (HN.out rfl)
    clear HY HN HR
    rw [HV.out]
    go_enter Try.func38, Try.ntmps38
    go_wp2_with fail
    refine HF.out.mono ?_
    rintro e w1 ⟨rfl, hb1⟩
    have HB1 := Lib.hid hb1
    clear hb1
    go_wp2_with fail
    go_ret2
    exact ⟨⟨_, rfl, ownR_nil HB1.out, HB1.out.alloc HB1.out.size _⟩, fun h => absurd h (by simp)⟩

/-- The last of a list. -/
noncomputable def higB (m : List (List Int)) : Bool := finB m && connB (partsV m).length
noncomputable def higL (m : List (List Int)) : List Int := if higB m = true then (posL m).getD ((posL m).length - 1) [] else []
theorem higL_yes {m : List (List Int)} (h : higB m = true) : higL m = (posL m).getD ((posL m).length - 1) [] := if_pos h
theorem higL_no {m : List (List Int)} (h : higB m = false) : higL m = [] := by unfold higL; rw [h]; rfl
theorem posL_low (m : List (List Int)) : (posL m).length ≤ 28561 ∧ ∀ r ∈ posL m, r.length ≤ 4 := by
  cases h : finB m with
  | true => rw [posL_yes h]; exact rutL_low _ _
  | false => rw [posL_no h]; exact ⟨by simp, fun r hr => absurd hr (by simp)⟩
theorem higL_len (m : List (List Int)) : (higL m).length ≤ 4 := by
  cases h : higB m with
  | true => rw [higL_yes h]; exact getD_le (posL_low m).2 _
  | false => rw [higL_no h]; simp
theorem isRoots_ne {m : List (List Int)} {h : Int} {L : List (List Int)} (hI : IsC m) (hL : IsRoots m h L) : 0 < L.length :=
  List.length_pos_of_mem ((hL.2 _).2 (.base 0 (by have := hI.2.2.1; omega)))
set_option maxHeartbeats 4000000 in
set_option maxRecDepth 100000 in
theorem higs_any (B : Nat) (v : Value) (m : List (List Int)) (w : World) (hM : MatB B w v m) (hB : B ≤ w.heap.size) (hf : RowsFit m) :
    Calls Try.prog 43 #[v] w (MakesS2 w (higL m) (.bool (higB m))) := by
  have HP := Lib.hid (poss_any B v m w hM hB hf)
  have HCN := Lib.hid (fun (wx : World) (hb : Below w.heap.size w wx) => cons_any B v m wx (hM.below hb hB) (Nat.le_trans hB hb.size) hf)
  have HHB := Lib.hid (show higB m = (finB m && connB (partsV m).length) from rfl)
  have HY := Lib.hid (fun h => higL_yes (m := m) h)
  have HN := Lib.hid (fun h => higL_no (m := m) h)
  have HPY := Lib.hid (fun h => posL_yes (m := m) h)
  have HNE := Lib.hid (fun (h : finB m = true) (hL : IsRoots m 12 (rutL m 12)) => isRoots_ne (fin_isC h) hL)
  have HLO := Lib.hid (posL_low m)
  clear hM hf
  generalize higL m = R at *
  generalize higB m = hb at *
  generalize connB (partsV m).length = cb at *
  generalize finB m = fb at *
  cases fb with
  | false =>
    have hbf : hb = false := by have := HHB.out; simpa using this
    subst hbf
    have HV := Lib.hid (HN.out rfl)
    clear HY HN HPY HNE HCN
    rw [HV.out]
    go_enter Try.func43, Try.ntmps43
    go_wp2_with fail
    refine HP.out.mono ?_
    rintro e w1 ⟨⟨x, rfl, hx, hb1⟩, _⟩
    have HB1 := Lib.hid hb1
    clear hx hb1
    go_wp2_with fail
    go_ret2
    exact ⟨_, rfl, ⟨(row_empty w1).mono HB1.out.size (Nat.le_refl _), Nat.le_refl _⟩, HB1.out.alloc HB1.out.size _⟩
  | true =>
    cases cb with
    | false =>
      have hbf : hb = false := by have := HHB.out; simpa using this
      subst hbf
      have HV := Lib.hid (HN.out rfl)
      clear HY HN HPY HNE
      rw [HV.out]
      go_enter Try.func43, Try.ntmps43
      go_wp2_with fail
      refine HP.out.mono ?_
      rintro e w1 ⟨⟨x, rfl, hx, hb1⟩, _⟩
      have HB1 := Lib.hid hb1
      have HC1 := Lib.hid (HCN.out w1 hb1)
      clear hx hb1
      go_wp2_with fail
      refine HC1.out.mono ?_
      rintro e w2 ⟨rfl, hb2⟩
      have HB2 := Lib.hid (HB1.out.trans (hb2.mono HB1.out.size))
      clear hb2
      go_wp2_with fail
      go_ret2
      exact ⟨_, rfl, ⟨(row_empty w2).mono HB2.out.size (Nat.le_refl _), Nat.le_refl _⟩, HB2.out.alloc HB2.out.size _⟩
    | true =>
      have hbt : hb = true := by have := HHB.out; simpa using this
      subst hbt
      have HV := Lib.hid (HY.out rfl)
      have HPE := Lib.hid (HPY.out rfl)
      clear HY HN
      go_enter Try.func43, Try.ntmps43
      go_wp2_with fail
      refine HP.out.mono ?_
      rintro e w1 ⟨⟨x, rfl, hx, hb1⟩, hir⟩
      have hne := HNE.out trivial (hir trivial)
      rw [← HPE.out] at hne
      have HB1 := Lib.hid hb1
      have HC1 := Lib.hid (HCN.out w1 hb1)
      have HX := Lib.hid hx
      obtain ⟨xa, xc, rfl⟩ := hx.matB.slice
      clear hx hb1 hir HNE HPE HPY
      generalize hN : (posL m).length = N at *
      obtain ⟨k, rfl⟩ : ∃ k, N = k + 1 := ⟨N - 1, by omega⟩
      have HKN := Lib.hid hN; clear hN
      go_wp2_with fail
      refine HC1.out.mono ?_
      rintro e w2 ⟨rfl, hb2⟩
      have HB2 := Lib.hid (HB1.out.trans (hb2.mono HB1.out.size))
      have hs2 : w.heap.size ≤ w2.heap.size := HB2.out.size
      have hx2 := (HX.out.step hb2).matB
      obtain ⟨b, off, ra, rcap, hkl, rfl, hbB, hc, hrow⟩ := hx2.rowD (j := k) (by omega)
      have HVK := Lib.hid (show R = (posL m).getD k [] from by rw [HV.out, Nat.add_sub_cancel])
      have hlen : ((posL m).getD k []).length ≤ 4 := getD_le HLO.out.2 k
      have hb0 : Below w2.heap.size w2 (w2.alloc (.cells #[] 3)) := (Below.refl _ _).alloc (Nat.le_refl _) _
      have hsz1 : w1.heap.size ≤ w2.heap.size := hb2.size
      have HROW := Lib.hid (hrow.below hb0 hsz1)
      have hc0 : (w2.alloc (.cells #[] 3)).cell? ⟨b, off + k, none⟩ = some (.slice ra ((posL m).getD k []).length rcap) := by
        rw [World.cell?_alloc_past _ _ _ (by show b < _; omega)]; exact hc
      have hk5 : k ≤ 28561 := by have := HLO.out.1; omega
      clear hb2 hx2 hrow hc hb0 HX HLO hne hkl
      clear HV
      generalize (posL m).getD k [] = r at *
      have HRL := Lib.hid (show ([] : List Int).length + r.length ≤ 4194304 by simp; omega)
      have hq1 : w2.heap.size ≤ (w2.alloc (.cells #[] 3)).heap.size := by simp
      generalize hrn : r.length = rn at *
      have HRN := Lib.hid hrn; clear hrn
      go_wp2_with (at_builtin; go_must (refine append_intsA (row_empty w2) hq1 HROW.out (by rw [HRN.out]; exact HRL.out) rfl rfl rfl rfl ?_))
      intro v3 w3 hr3 hb3 hz3
      have hr3 : RowI w2.heap.size w3.heap.size w3 v3 r := by simpa using hr3
      have HR3 := Lib.hid (hr3.mono hs2 (Nat.le_refl _))
      have HB3 := Lib.hid (HB2.out.trans ((hb3 w2 w2.heap.size (Nat.le_refl _) ((Below.refl _ _).alloc (Nat.le_refl _) _)).mono hs2))
      clear hr3 hb3 hz3
      go_wp2_with fail
      go_ret2
      exact ⟨_, rfl, ⟨by rw [HVK.out]; exact HR3.out, Nat.le_refl _⟩, HB3.out⟩
end Go.Proofs.Ytlbgblkoddlhnaa
namespace Go.Proofs.Ytlbgblkoddlhnaa
open Go.ChangeShapes Go.WideShapes Go.ChangeAt Go.ChangeMaps Go.RowKit

section
variable {H : Type} {enc : TypeId × Value → H} {P : Program}

def rowed (P : Program) (ts : List TypeId) : Bool := ts.all fun t => P.readableRec t && decide (t < P.types.size)

theorem stays_all (hl : laidOutB P = true) {W W' : World} (hb : Below W.heap.size W W') (sp : Nat → Bool) :
    ∀ {ts : List TypeId} {vs : List Value} {ds : List (DataW H)} {p : List MemPlace}, rowed P ts = true → (∀ x ∈ p, x.block < W.heap.size) → (∀ x ∈ p, sp x.block = true) →
      DataW.TrodAll enc P W 0 (fun _ => true) true ts vs ds p → DataW.TrodAll enc P W' 0 sp true ts vs ds p
  | [], _, _, _, _, _, _, h => by
    obtain ⟨rfl, rfl, rfl⟩ := trodAll_nil h
    rfl
  | t :: ts, _, _, _, hr, hlt, hs, h => by
    obtain ⟨v, vs', d, ds', p, q, rfl, rfl, rfl, h1, h2⟩ := trodAll_cons h
    simp only [rowed, List.all_cons, Bool.and_eq_true, decide_eq_true_eq] at hr
    have hp : ∀ x ∈ p, x.block < W.heap.size := fun x hx => hlt x (by simp [hx])
    refine ⟨p, q, WideElems.Trod_stays hl hr.1.1 hr.1.2 h1 (fun x hx => hb.same (hp x hx)) (fun x hx => hs x (by simp [hx])), ?_, rfl⟩
    exact stays_all hl hb sp (ts := ts) hr.2 (fun x hx => hlt x (by simp [hx])) (fun x hx => hs x (by simp [hx])) h2

/-- What a law leaves behind: it answered true, and below the old heap's end nothing has turned. -/
theorem law_post {f : Func} {s : ChangeSpec} {W W' : World} {args : Array Value} {ds gs : List (DataW H)} {before : List MemPlace} {tb : TypeId}
    (hl : laidOutB P = true) (hr : rowed P f.params.toList = true) (hv : s.vars = []) (hres : f.resultTypes = #[tb]) (htb : P.underlying tb = some .bool)
    (hW : DataW.Whole enc P f.params.toList s.vars false W args.toList ds gs before)
    (hfn : s.fn H (ds ++ gs) = { results := [.lit (.bool true)], args := ds }) (hb : Below W.heap.size W W') :
    s.post enc P f false true false false W args (.bool true) W' := by
  have hlt : ∀ p ∈ before, p.block < W.heap.size := fun p hp => hW.lt p hp
  have hW0 := hW
  obtain ⟨p, q, hA, hV, rfl, hz, -⟩ := hW
  rw [hv] at hV
  obtain ⟨rfl, rfl⟩ := trodVars_none hV
  have hrl : (Value.bool true).resultList f.resultTypes.size = [.bool true] := by rw [hres]; rfl
  have hR : ∀ (b : Nat) (sp : Nat → Bool) (hd : Bool), DataW.TrodAll enc P W' b sp hd f.resultTypes.toList ((Value.bool true).resultList f.resultTypes.size) (s.fn H (ds ++ [])).results [] := by
    intro b sp hd
    rw [hrl, hres, hfn]
    exact trodAll_mk1 (shut_bool htb true)
  have hA' : ∀ sp : Nat → Bool, (∀ x ∈ p, sp x.block = true) → DataW.TrodAll enc P W' 0 sp true f.params.toList args.toList (s.fn H (ds ++ [])).args p := by
    intro sp hs
    rw [hfn]
    exact stays_all hl hb sp hr (fun x hx => hlt x (by simp [hx])) hs hA
  have hV' : ∀ sp : Nat → Bool, DataW.TrodVars enc P W' sp s.vars (s.fn H (ds ++ [])).vars [] := by
    intro sp
    rw [hfn, hv]
    rfl
  refine ⟨ds, [], p ++ [], [], p, [], hW0, hR _ _ _, hA' _ (fun x hx => by simpa using hlt x (by simp [hx])), hV' _, World.keptBut_mono (fun x hx => ?_) (hb.frame (· ∈ p ++ [])), fun h => by cases h⟩
  exact ⟨hx, Or.inr (Or.inl (by simpa using hx))⟩
end
end Go.Proofs.Ytlbgblkoddlhnaa
namespace Go.Proofs.Ytlbgblkoddlhnaa
theorem seat_own : ownKnob Try.prog.godebug = none := by kernel_rfl
theorem seat_laidOut : laidOutB Try.prog = true := by kernel_rfl
end Go.Proofs.Ytlbgblkoddlhnaa
