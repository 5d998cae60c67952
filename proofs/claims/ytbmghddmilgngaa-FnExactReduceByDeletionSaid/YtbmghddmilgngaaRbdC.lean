/-
  Proved here: for every matrix of ints and every list of ints, the program ReduceByDeletion returns what the model returns, two lists in memory of their own, and the law answers true. No condition.
-/
import Derived.Test.YtbmghddmilgngaaLcZ
namespace Go.Proofs.Ytbmghddmilgngaa
open Go.ChangeShapes Go.WideShapes Go.ChangeAt Go.ChangeMaps Go.RowKit

set_option maxHeartbeats 2000000 in
set_option maxRecDepth 100000 in
theorem rbdl10_law (v0 : Value) (m0 : List (List Int)) (v1 : Value) (l1 : List Int) (w : World) (hM0 : MatB w.heap.size w v0 m0) (hf0 : RowsFit m0) (hR1 : RowB w.heap.size w v1 l1) (hl1 : l1.length ≤ maxLen) :
    Calls Try.prog 7 #[v0, v1] w fun e w' => e = .returned (.bool true) ∧ Below w.heap.size w w' := by
  obtain ⟨ra1, rcap1, rfl⟩ := hR1.slice
  have hbad1 := hl1; unfold maxLen at hbad1
  by_cases hg1 : l1.length > 1048576
  · clear hR1
    generalize l1.length = n1 at *
    go_enter Try.func7, Try.ntmps7
    go_wp2_with fail
    go_ret
    exact ⟨rfl, Below.refl _ _⟩
  by_cases hz0 : szSum m0 ≤ 1048576
  case neg =>
    have HZ0 := Lib.hid (szI_no hz0)
    have HM0 := Lib.hid hM0; have HF0 := Lib.hid hf0
    go_enter Try.func7, Try.ntmps7
    go_wp2_with fail
    refine (szSS_any _ _ m0 (1048576) _ HM0.out HF0.out (by omega)).mono ?_
    rintro e w' ⟨rfl, rfl⟩
    rw [HZ0.out]
    go_wp2_with fail
    go_ret
    exact ⟨rfl, Below.refl _ _⟩
  have HS0 := Lib.hid (small_of (m := m0) (by omega))
  have HT0 : Hid (szSum m0 ≤ 1048576) := Lib.hid (by omega)
  have HZ0 := Lib.hid (szI_yes hz0)
  have HM0 := Lib.hid hM0; have HF0 := Lib.hid hf0
  clear hM0 hf0
  have HR1 := Lib.hid hR1; have HL1 : Hid (l1.length ≤ 1048576) := Lib.hid (by omega)
  clear hR1
  generalize hln1 : l1.length = n1 at *
  have HLN1 := Lib.hid hln1; clear hln1
  go_enter Try.func7, Try.ntmps7
  go_wp2_with fail
  refine (szSS_any _ _ m0 (1048576) _ HM0.out HF0.out (by omega)).mono ?_
  rintro e w' ⟨rfl, rfl⟩
  have hcast0 : ((1048576 : Nat) : Int) - (szSum m0 : Nat) = ((1048576 - szSum m0 : Nat) : Int) := by omega
  rw [HZ0.out, hcast0]
  clear hcast0
  go_wp2_with fail
  refine (toM_own _ _ m0 _ (HM0.out.below (Below.refl w.heap.size w) (Nat.le_refl _)) ((Below.refl w.heap.size w)).size HS0.out).mono ?_
  rintro e w1 ⟨xa0, rfl, ha0, hb⟩
  have Ha0_1 := Lib.hid ha0; clear ha0
  have HB1 := Lib.hid hb
  have HSZ1 := Lib.hid hb.size
  clear hb
  go_wp2_with fail
  refine (toL_own _ _ l1 _ (HR1.out.below HB1.out (Nat.le_refl _)) (HB1.out).size (by first | exact HL1.out | (rw [HLN1.out]; exact HL1.out))).mono ?_
  rintro e w2 ⟨xa1, rfl, ha1, hb⟩
  have Ha1_2 := Lib.hid ha1; clear ha1
  have HB2 := Lib.hid (HB1.out.trans (hb.mono HB1.out.size))
  have HSZ2 := Lib.hid hb.size
  have Ha0_2 := Lib.hid (Ha0_1.out.step hb)
  clear Ha0_1
  clear hb
  go_wp2_with fail
  refine (rbds_e _ _ m0 l1 _ (MatB.mono Ha0_2.out.matB Ha0_2.out.2) (RowB.mono Ha1_2.out.rowB Ha1_2.out.2) HF0.out (by have q91 := HL1.out; have e91 := HLN1.out; omega)).mono ?_
  rintro e w3 ⟨xs, xs2, rfl, hs, hs2, hap, hb⟩
  have Hs_3 := Lib.hid hs; clear hs
  have Hs2_3 := Lib.hid hs2; clear hs2
  clear hap
  have HB3 := Lib.hid (HB2.out.trans (hb.mono HB2.out.size))
  have HSZ3 := Lib.hid hb.size
  have Ha0_3 := Lib.hid (Ha0_2.out.step hb)
  clear Ha0_2
  have Ha1_3 := Lib.hid (Ha1_2.out.step hb)
  clear Ha1_2
  clear hb
  go_wp2_with fail
  clear Ha0_3
  clear Ha1_3
  refine (toM_own _ _ m0 _ (HM0.out.below HB3.out (Nat.le_refl _)) (HB3.out).size HS0.out).mono ?_
  rintro e w4 ⟨xx0, rfl, hx0, hb⟩
  have Hx0_4 := Lib.hid hx0; clear hx0
  have HB4 := Lib.hid (HB3.out.trans (hb.mono HB3.out.size))
  have HSZ4 := Lib.hid hb.size
  have Hs_4 := Lib.hid (Hs_3.out.step hb)
  clear Hs_3
  have Hs2_4 := Lib.hid (Hs2_3.out.step hb)
  clear Hs2_3
  clear hb
  go_wp2_with fail
  refine (toL_own _ _ l1 _ (HR1.out.below HB4.out (Nat.le_refl _)) (HB4.out).size (by first | exact HL1.out | (rw [HLN1.out]; exact HL1.out))).mono ?_
  rintro e w5 ⟨xx1, rfl, hx1, hb⟩
  have Hx1_5 := Lib.hid hx1; clear hx1
  have HB5 := Lib.hid (HB4.out.trans (hb.mono HB4.out.size))
  have HSZ5 := Lib.hid hb.size
  have Hs_5 := Lib.hid (Hs_4.out.step hb)
  clear Hs_4
  have Hs2_5 := Lib.hid (Hs2_4.out.step hb)
  clear Hs2_4
  have Hx0_5 := Lib.hid (Hx0_4.out.step hb)
  clear Hx0_4
  clear hb
  go_wp2_with fail
  refine (rbdi_e _ _ m0 l1 _ (MatB.mono Hx0_5.out.matB Hx0_5.out.2) (RowB.mono Hx1_5.out.rowB Hx1_5.out.2) Hx1_5.out.1.roomy HF0.out (by have q91 := HL1.out; have e91 := HLN1.out; omega)).mono ?_
  rintro e w6 ⟨xg, xg2, rfl, hg, hg2, hap, hb⟩
  have Hg_6 := Lib.hid hg; clear hg
  have Hg2_6 := Lib.hid hg2; clear hg2
  have HAPG := Lib.hid hap
  clear hap
  have HB6 := Lib.hid (HB5.out.trans (hb.mono HB5.out.size))
  have HSZ6 := Lib.hid hb.size
  have Hs_6 := Lib.hid (Hs_5.out.step hb)
  clear Hs_5
  have Hs2_6 := Lib.hid (Hs2_5.out.step hb)
  clear Hs2_5
  have Hx0_6 := Lib.hid (Hx0_5.out.step hb)
  clear Hx0_5
  have Hx1_6 := Lib.hid (Hx1_5.out.step hb)
  clear Hx1_5
  clear hb
  go_wp2_with fail
  refine (eqL_same _ _ _ _ (rdS m0 15 l1 []).1 _ Hg_6.out.rowB Hs_6.out.rowB (by have q91 := HL1.out; have e91 := HLN1.out; have q92 := (rdS_lens m0 15 l1 []).1; have q93 := (rdS_lens m0 15 l1 []).2; have e93 : ([] : List Int).length = 0 := rfl; unfold maxLen; omega)).mono ?_
  rintro e w7 ⟨rfl, hq⟩
  have hb : Below w6.heap.size w6 w7 := by obtain ⟨q, hq'⟩ := hq; rw [hq']; exact below_drewN q
  clear hq
  have HB7 := Lib.hid (HB6.out.trans (hb.mono HB6.out.size))
  have HSZ7 := Lib.hid hb.size
  have Hs_7 := Lib.hid (Hs_6.out.step hb)
  clear Hs_6
  have Hs2_7 := Lib.hid (Hs2_6.out.step hb)
  clear Hs2_6
  have Hx0_7 := Lib.hid (Hx0_6.out.step hb)
  clear Hx0_6
  have Hx1_7 := Lib.hid (Hx1_6.out.step hb)
  clear Hx1_6
  have Hg_7 := Lib.hid (Hg_6.out.step hb)
  clear Hg_6
  have Hg2_7 := Lib.hid (Hg2_6.out.step hb)
  clear Hg2_6
  clear hb
  go_wp2_with fail
  refine (eqL_same _ _ _ _ (rdS m0 15 l1 []).2 _ Hg2_7.out.rowB Hs2_7.out.rowB (by have q91 := HL1.out; have e91 := HLN1.out; have q92 := (rdS_lens m0 15 l1 []).1; have q93 := (rdS_lens m0 15 l1 []).2; have e93 : ([] : List Int).length = 0 := rfl; unfold maxLen; omega)).mono ?_
  rintro e w8 ⟨rfl, hq⟩
  have hb : Below w7.heap.size w7 w8 := by obtain ⟨q, hq'⟩ := hq; rw [hq']; exact below_drewN q
  clear hq
  have HB8 := Lib.hid (HB7.out.trans (hb.mono HB7.out.size))
  have HSZ8 := Lib.hid hb.size
  have Hs_8 := Lib.hid (Hs_7.out.step hb)
  clear Hs_7
  have Hs2_8 := Lib.hid (Hs2_7.out.step hb)
  clear Hs2_7
  have Hx0_8 := Lib.hid (Hx0_7.out.step hb)
  clear Hx0_7
  have Hx1_8 := Lib.hid (Hx1_7.out.step hb)
  clear Hx1_7
  have Hg_8 := Lib.hid (Hg_7.out.step hb)
  clear Hg_7
  have Hg2_8 := Lib.hid (Hg2_7.out.step hb)
  clear Hg2_7
  clear hb
  go_wp2_with fail
  refine (toM_own _ _ m0 _ (HM0.out.below HB8.out (Nat.le_refl _)) (HB8.out).size HS0.out).mono ?_
  rintro e w9 ⟨xc0, rfl, hc0, hb⟩
  have Hc0_9 := Lib.hid hc0; clear hc0
  have HB9 := Lib.hid (HB8.out.trans (hb.mono HB8.out.size))
  have HSZ9 := Lib.hid hb.size
  have Hs_9 := Lib.hid (Hs_8.out.step hb)
  clear Hs_8
  have Hs2_9 := Lib.hid (Hs2_8.out.step hb)
  clear Hs2_8
  have Hx0_9 := Lib.hid (Hx0_8.out.step hb)
  clear Hx0_8
  have Hx1_9 := Lib.hid (Hx1_8.out.step hb)
  clear Hx1_8
  have Hg_9 := Lib.hid (Hg_8.out.step hb)
  clear Hg_8
  have Hg2_9 := Lib.hid (Hg2_8.out.step hb)
  clear Hg2_8
  clear hb
  go_wp2_with fail
  refine (eqM_same _ _ _ _ m0 _ Hx0_9.out.matB Hc0_9.out.matB HF0.out).mono ?_
  rintro e w10 ⟨rfl, hq⟩
  have hb : Below w9.heap.size w9 w10 := by obtain ⟨q, hq'⟩ := hq; rw [hq']; exact below_drewN q
  clear hq
  have HB10 := Lib.hid (HB9.out.trans (hb.mono HB9.out.size))
  have HSZ10 := Lib.hid hb.size
  have Hs_10 := Lib.hid (Hs_9.out.step hb)
  clear Hs_9
  have Hs2_10 := Lib.hid (Hs2_9.out.step hb)
  clear Hs2_9
  have Hx0_10 := Lib.hid (Hx0_9.out.step hb)
  clear Hx0_9
  have Hx1_10 := Lib.hid (Hx1_9.out.step hb)
  clear Hx1_9
  have Hg_10 := Lib.hid (Hg_9.out.step hb)
  clear Hg_9
  have Hg2_10 := Lib.hid (Hg2_9.out.step hb)
  clear Hg2_9
  have Hc0_10 := Lib.hid (Hc0_9.out.step hb)
  clear Hc0_9
  clear hb
  go_wp2_with fail
  clear Hc0_10
  refine (toL_own _ _ l1 _ (HR1.out.below HB10.out (Nat.le_refl _)) (HB10.out).size (by first | exact HL1.out | (rw [HLN1.out]; exact HL1.out))).mono ?_
  rintro e w11 ⟨xc1, rfl, hc1, hb⟩
  have Hc1_11 := Lib.hid hc1; clear hc1
  have HB11 := Lib.hid (HB10.out.trans (hb.mono HB10.out.size))
  have HSZ11 := Lib.hid hb.size
  have Hs_11 := Lib.hid (Hs_10.out.step hb)
  clear Hs_10
  have Hs2_11 := Lib.hid (Hs2_10.out.step hb)
  clear Hs2_10
  have Hx0_11 := Lib.hid (Hx0_10.out.step hb)
  clear Hx0_10
  have Hx1_11 := Lib.hid (Hx1_10.out.step hb)
  clear Hx1_10
  have Hg_11 := Lib.hid (Hg_10.out.step hb)
  clear Hg_10
  have Hg2_11 := Lib.hid (Hg2_10.out.step hb)
  clear Hg2_10
  clear hb
  go_wp2_with fail
  refine (eqL_same _ _ _ _ l1 _ Hx1_11.out.rowB Hc1_11.out.rowB (by have e9 := HLN1.out; have := HL1.out; unfold maxLen; omega)).mono ?_
  rintro e w12 ⟨rfl, hq⟩
  have hb : Below w11.heap.size w11 w12 := by obtain ⟨q, hq'⟩ := hq; rw [hq']; exact below_drewN q
  clear hq
  have HB12 := Lib.hid (HB11.out.trans (hb.mono HB11.out.size))
  have HSZ12 := Lib.hid hb.size
  have Hs_12 := Lib.hid (Hs_11.out.step hb)
  clear Hs_11
  have Hs2_12 := Lib.hid (Hs2_11.out.step hb)
  clear Hs2_11
  have Hx0_12 := Lib.hid (Hx0_11.out.step hb)
  clear Hx0_11
  have Hx1_12 := Lib.hid (Hx1_11.out.step hb)
  clear Hx1_11
  have Hg_12 := Lib.hid (Hg_11.out.step hb)
  clear Hg_11
  have Hg2_12 := Lib.hid (Hg2_11.out.step hb)
  clear Hg2_11
  have Hc1_12 := Lib.hid (Hc1_11.out.step hb)
  clear Hc1_11
  clear hb
  go_wp2_with fail
  clear Hc1_12
  refine (markM_own _ _ _ m0 (1) _ Hx0_12.out HT0.out (by have q0 := HT0.out; unfold szSum at q0; have q91 := HL1.out; have e91 := HLN1.out; omega)).mono ?_
  rintro e w13 ⟨rfl, hx0, ho⟩
  clear Hx0_12
  have Hx0_13 := Lib.hid hx0; clear hx0
  have HB13 := Lib.hid (ho.below (HB3.out.size) HB12.out)
  have HSZ13 : Hid (w12.heap.size ≤ w13.heap.size) := Lib.hid (Nat.le_of_eq ho.size.symm)
  have Hs_13 := Lib.hid (Hs_12.out.only ho (Or.inl (by exact Nat.le_refl _)))
  clear Hs_12
  have Hs2_13 := Lib.hid (Hs2_12.out.only ho (Or.inl (by exact Nat.le_refl _)))
  clear Hs2_12
  have Hx1_13 := Lib.hid (Hx1_12.out.only ho (Or.inr (by exact Nat.le_refl _)))
  clear Hx1_12
  have Hg_13 := Lib.hid (Hg_12.out.only ho (Or.inr (by have q5 := HSZ5.out; omega)))
  clear Hg_12
  have Hg2_13 := Lib.hid (Hg2_12.out.only ho (Or.inr (by have q5 := HSZ5.out; omega)))
  clear Hg2_12
  clear ho
  go_wp2_with fail
  refine (markL_own _ _ _ l1 (1 + (m0.map List.length).sum) _ Hx1_13.out (by have e9 := HLN1.out; have q9 := HL1.out; omega) (by have q0 := HT0.out; unfold szSum at q0; have q91 := HL1.out; have e91 := HLN1.out; omega)).mono ?_
  rintro e w14 ⟨rfl, hx1, ho⟩
  clear Hx1_13
  have Hx1_14 := Lib.hid hx1; clear hx1
  have HB14 := Lib.hid (ho.below (HB4.out.size) HB13.out)
  have HSZ14 : Hid (w13.heap.size ≤ w14.heap.size) := Lib.hid (Nat.le_of_eq ho.size.symm)
  have Hs_14 := Lib.hid (Hs_13.out.only ho (Or.inl (by have q4 := HSZ4.out; omega)))
  clear Hs_13
  have Hs2_14 := Lib.hid (Hs2_13.out.only ho (Or.inl (by have q4 := HSZ4.out; omega)))
  clear Hs2_13
  have Hx0_14 := Lib.hid (Hx0_13.out.only ho (Or.inl (by exact Nat.le_refl _)))
  clear Hx0_13
  have Hg_14 := Lib.hid (Hg_13.out.only ho (Or.inr (by exact Nat.le_refl _)))
  clear Hg_13
  have Hg2_14 := Lib.hid (Hg2_13.out.only ho (Or.inr (by exact Nat.le_refl _)))
  clear Hg2_13
  clear ho
  go_wp2_with fail
  refine (eqL_same _ _ _ _ (rdS m0 15 l1 []).1 _ Hg_14.out.rowB Hs_14.out.rowB (by have q91 := HL1.out; have e91 := HLN1.out; have q92 := (rdS_lens m0 15 l1 []).1; have q93 := (rdS_lens m0 15 l1 []).2; have e93 : ([] : List Int).length = 0 := rfl; unfold maxLen; omega)).mono ?_
  rintro e w15 ⟨rfl, hq⟩
  have hb : Below w14.heap.size w14 w15 := by obtain ⟨q, hq'⟩ := hq; rw [hq']; exact below_drewN q
  clear hq
  have HB15 := Lib.hid (HB14.out.trans (hb.mono HB14.out.size))
  have HSZ15 := Lib.hid hb.size
  have Hs_15 := Lib.hid (Hs_14.out.step hb)
  clear Hs_14
  have Hs2_15 := Lib.hid (Hs2_14.out.step hb)
  clear Hs2_14
  have Hx0_15 := Lib.hid (Hx0_14.out.step hb)
  clear Hx0_14
  have Hx1_15 := Lib.hid (Hx1_14.out.step hb)
  clear Hx1_14
  have Hg_15 := Lib.hid (Hg_14.out.step hb)
  clear Hg_14
  have Hg2_15 := Lib.hid (Hg2_14.out.step hb)
  clear Hg2_14
  clear hb
  go_wp2_with fail
  refine (eqL_same _ _ _ _ (rdS m0 15 l1 []).2 _ Hg2_15.out.rowB Hs2_15.out.rowB (by have q91 := HL1.out; have e91 := HLN1.out; have q92 := (rdS_lens m0 15 l1 []).1; have q93 := (rdS_lens m0 15 l1 []).2; have e93 : ([] : List Int).length = 0 := rfl; unfold maxLen; omega)).mono ?_
  rintro e w16 ⟨rfl, hq⟩
  have hb : Below w15.heap.size w15 w16 := by obtain ⟨q, hq'⟩ := hq; rw [hq']; exact below_drewN q
  clear hq
  have HB16 := Lib.hid (HB15.out.trans (hb.mono HB15.out.size))
  have HSZ16 := Lib.hid hb.size
  have Hs_16 := Lib.hid (Hs_15.out.step hb)
  clear Hs_15
  have Hs2_16 := Lib.hid (Hs2_15.out.step hb)
  clear Hs2_15
  have Hx0_16 := Lib.hid (Hx0_15.out.step hb)
  clear Hx0_15
  have Hx1_16 := Lib.hid (Hx1_15.out.step hb)
  clear Hx1_15
  have Hg_16 := Lib.hid (Hg_15.out.step hb)
  clear Hg_15
  have Hg2_16 := Lib.hid (Hg2_15.out.step hb)
  clear Hg2_15
  clear hb
  go_wp2_with fail
  clear Hx0_16
  clear Hx1_16
  obtain ⟨A1, B1, A2, B2, hs1, hs2, hdj, hA1, hA2⟩ := parts_two Hg_16.out Hg2_16.out HAPG.out
  clear Hg_16 Hg2_16 HAPG
  have Hg_16 := Lib.hid hs1; have Hg2_16 := Lib.hid hs2; have HDJ := Lib.hid hdj; have HA1 := Lib.hid hA1; have HA2 := Lib.hid hA2; clear hs1 hs2 hdj hA1 hA2
  refine (markL_own _ _ _ (rdS m0 15 l1 []).1 (1) _ Hg_16.out (by have q91 := HL1.out; have e91 := HLN1.out; have q92 := (rdS_lens m0 15 l1 []).1; have q93 := (rdS_lens m0 15 l1 []).2; have e93 : ([] : List Int).length = 0 := rfl; omega) (by omega)).mono ?_
  rintro e w17 ⟨rfl, hg, ho⟩
  clear Hg_16; have Hg_17 := Lib.hid hg; clear hg
  have Hg2_17 := Lib.hid (Hg2_16.out.only ho (HDJ.out.symm)); clear Hg2_16
  have HB17 := Lib.hid (ho.below (Nat.le_trans HB5.out.size HA1.out) HB16.out)
  have HSZ17 : Hid (w16.heap.size ≤ w17.heap.size) := Lib.hid (Nat.le_of_eq ho.size.symm)
  have Hs_17 := Lib.hid (Hs_16.out.only ho (Or.inl (Nat.le_trans (by have q4 := HSZ4.out; have q5 := HSZ5.out; omega) HA1.out))); clear Hs_16
  have Hs2_17 := Lib.hid (Hs2_16.out.only ho (Or.inl (Nat.le_trans (by have q4 := HSZ4.out; have q5 := HSZ5.out; omega) HA1.out))); clear Hs2_16
  clear ho
  go_wp2_with fail
  refine (markL_own _ _ _ (rdS m0 15 l1 []).2 (1 + ((rdS m0 15 l1 []).1).length) _ Hg2_17.out (by have q91 := HL1.out; have e91 := HLN1.out; have q92 := (rdS_lens m0 15 l1 []).1; have q93 := (rdS_lens m0 15 l1 []).2; have e93 : ([] : List Int).length = 0 := rfl; omega) (by have q91 := HL1.out; have e91 := HLN1.out; have q92 := (rdS_lens m0 15 l1 []).1; have q93 := (rdS_lens m0 15 l1 []).2; have e93 : ([] : List Int).length = 0 := rfl; omega)).mono ?_
  rintro e w18 ⟨rfl, hg, ho⟩
  clear Hg2_17; have Hg2_18 := Lib.hid hg; clear hg
  have Hg_18 := Lib.hid (Hg_17.out.only ho (HDJ.out)); clear Hg_17
  have HB18 := Lib.hid (ho.below (Nat.le_trans HB5.out.size HA2.out) HB17.out)
  have HSZ18 : Hid (w17.heap.size ≤ w18.heap.size) := Lib.hid (Nat.le_of_eq ho.size.symm)
  have Hs_18 := Lib.hid (Hs_17.out.only ho (Or.inl (Nat.le_trans (by have q4 := HSZ4.out; have q5 := HSZ5.out; omega) HA2.out))); clear Hs_17
  have Hs2_18 := Lib.hid (Hs2_17.out.only ho (Or.inl (Nat.le_trans (by have q4 := HSZ4.out; have q5 := HSZ5.out; omega) HA2.out))); clear Hs2_17
  clear ho
  go_wp2_with fail
  refine (heldL_own _ _ ((rdS m0 15 l1 []).1).length 1 _ Hg_18.out.rowB (by have q91 := HL1.out; have e91 := HLN1.out; have q92 := (rdS_lens m0 15 l1 []).1; have q93 := (rdS_lens m0 15 l1 []).2; have e93 : ([] : List Int).length = 0 := rfl; omega) (by omega)).mono ?_
  rintro e w' ⟨rfl, rfl⟩
  go_wp2_with fail
  refine (heldL_own _ _ ((rdS m0 15 l1 []).2).length (1 + ((rdS m0 15 l1 []).1).length) _ Hg2_18.out.rowB (by have q91 := HL1.out; have e91 := HLN1.out; have q92 := (rdS_lens m0 15 l1 []).1; have q93 := (rdS_lens m0 15 l1 []).2; have e93 : ([] : List Int).length = 0 := rfl; omega) (by have q91 := HL1.out; have e91 := HLN1.out; have q92 := (rdS_lens m0 15 l1 []).1; have q93 := (rdS_lens m0 15 l1 []).2; have e93 : ([] : List Int).length = 0 := rfl; omega)).mono ?_
  rintro e w' ⟨rfl, rfl⟩
  go_wp2_with fail
  refine (toM_own _ _ m0 _ (HM0.out.below HB18.out (Nat.le_refl _)) (HB18.out).size HS0.out).mono ?_
  rintro e w19 ⟨xy0, rfl, hy0, hb⟩
  have Hy0_19 := Lib.hid hy0; clear hy0
  have HB19 := Lib.hid (HB18.out.trans (hb.mono HB18.out.size))
  have HSZ19 := Lib.hid hb.size
  have Hs_19 := Lib.hid (Hs_18.out.step hb)
  clear Hs_18
  have Hs2_19 := Lib.hid (Hs2_18.out.step hb)
  clear Hs2_18
  have Hg_19 := Lib.hid (Hg_18.out.step hb)
  clear Hg_18
  have Hg2_19 := Lib.hid (Hg2_18.out.step hb)
  clear Hg2_18
  clear hb
  go_wp2_with fail
  refine (toL_own _ _ l1 _ (HR1.out.below HB19.out (Nat.le_refl _)) (HB19.out).size (by first | exact HL1.out | (rw [HLN1.out]; exact HL1.out))).mono ?_
  rintro e w20 ⟨xy1, rfl, hy1, hb⟩
  have Hy1_20 := Lib.hid hy1; clear hy1
  have HB20 := Lib.hid (HB19.out.trans (hb.mono HB19.out.size))
  have HSZ20 := Lib.hid hb.size
  have Hs_20 := Lib.hid (Hs_19.out.step hb)
  clear Hs_19
  have Hs2_20 := Lib.hid (Hs2_19.out.step hb)
  clear Hs2_19
  have Hg_20 := Lib.hid (Hg_19.out.step hb)
  clear Hg_19
  have Hg2_20 := Lib.hid (Hg2_19.out.step hb)
  clear Hg2_19
  have Hy0_20 := Lib.hid (Hy0_19.out.step hb)
  clear Hy0_19
  clear hb
  go_wp2_with fail
  refine (rbdi_e _ _ m0 l1 _ (MatB.mono Hy0_20.out.matB Hy0_20.out.2) (RowB.mono Hy1_20.out.rowB Hy1_20.out.2) Hy1_20.out.1.roomy HF0.out (by have q91 := HL1.out; have e91 := HLN1.out; omega)).mono ?_
  rintro e w21 ⟨xh, xh2, rfl, hh, hh2, hap, hb⟩
  have Hh_21 := Lib.hid hh; clear hh
  have Hh2_21 := Lib.hid hh2; clear hh2
  clear hap
  have HB21 := Lib.hid (HB20.out.trans (hb.mono HB20.out.size))
  have HSZ21 := Lib.hid hb.size
  have Hs_21 := Lib.hid (Hs_20.out.step hb)
  clear Hs_20
  have Hs2_21 := Lib.hid (Hs2_20.out.step hb)
  clear Hs2_20
  have Hg_21 := Lib.hid (Hg_20.out.step hb)
  clear Hg_20
  have Hg2_21 := Lib.hid (Hg2_20.out.step hb)
  clear Hg2_20
  have Hy0_21 := Lib.hid (Hy0_20.out.step hb)
  clear Hy0_20
  have Hy1_21 := Lib.hid (Hy1_20.out.step hb)
  clear Hy1_20
  clear hb
  go_wp2_with fail
  clear Hy0_21
  clear Hy1_21
  refine (eqL_same _ _ _ _ (rdS m0 15 l1 []).1 _ Hh_21.out.rowB Hs_21.out.rowB (by have q91 := HL1.out; have e91 := HLN1.out; have q92 := (rdS_lens m0 15 l1 []).1; have q93 := (rdS_lens m0 15 l1 []).2; have e93 : ([] : List Int).length = 0 := rfl; unfold maxLen; omega)).mono ?_
  rintro e w22 ⟨rfl, hq⟩
  have hb : Below w21.heap.size w21 w22 := by obtain ⟨q, hq'⟩ := hq; rw [hq']; exact below_drewN q
  clear hq
  have HB22 := Lib.hid (HB21.out.trans (hb.mono HB21.out.size))
  have HSZ22 := Lib.hid hb.size
  have Hs_22 := Lib.hid (Hs_21.out.step hb)
  clear Hs_21
  have Hs2_22 := Lib.hid (Hs2_21.out.step hb)
  clear Hs2_21
  have Hg_22 := Lib.hid (Hg_21.out.step hb)
  clear Hg_21
  have Hg2_22 := Lib.hid (Hg2_21.out.step hb)
  clear Hg2_21
  have Hh_22 := Lib.hid (Hh_21.out.step hb)
  clear Hh_21
  have Hh2_22 := Lib.hid (Hh2_21.out.step hb)
  clear Hh2_21
  clear hb
  go_wp2_with fail
  refine (eqL_same _ _ _ _ (rdS m0 15 l1 []).2 _ Hh2_22.out.rowB Hs2_22.out.rowB (by have q91 := HL1.out; have e91 := HLN1.out; have q92 := (rdS_lens m0 15 l1 []).1; have q93 := (rdS_lens m0 15 l1 []).2; have e93 : ([] : List Int).length = 0 := rfl; unfold maxLen; omega)).mono ?_
  rintro e w23 ⟨rfl, hq⟩
  have hb : Below w22.heap.size w22 w23 := by obtain ⟨q, hq'⟩ := hq; rw [hq']; exact below_drewN q
  clear hq
  have HB23 := Lib.hid (HB22.out.trans (hb.mono HB22.out.size))
  have HSZ23 := Lib.hid hb.size
  have Hs_23 := Lib.hid (Hs_22.out.step hb)
  clear Hs_22
  have Hs2_23 := Lib.hid (Hs2_22.out.step hb)
  clear Hs2_22
  have Hg_23 := Lib.hid (Hg_22.out.step hb)
  clear Hg_22
  have Hg2_23 := Lib.hid (Hg2_22.out.step hb)
  clear Hg2_22
  have Hh_23 := Lib.hid (Hh_22.out.step hb)
  clear Hh_22
  have Hh2_23 := Lib.hid (Hh2_22.out.step hb)
  clear Hh2_22
  clear hb
  go_wp2_with fail
  refine (heldL_own _ _ ((rdS m0 15 l1 []).1).length 1 _ Hg_23.out.rowB (by have q91 := HL1.out; have e91 := HLN1.out; have q92 := (rdS_lens m0 15 l1 []).1; have q93 := (rdS_lens m0 15 l1 []).2; have e93 : ([] : List Int).length = 0 := rfl; omega) (by omega)).mono ?_
  rintro e w' ⟨rfl, rfl⟩
  go_wp2_with fail
  refine (heldL_own _ _ ((rdS m0 15 l1 []).2).length (1 + ((rdS m0 15 l1 []).1).length) _ Hg2_23.out.rowB (by have q91 := HL1.out; have e91 := HLN1.out; have q92 := (rdS_lens m0 15 l1 []).1; have q93 := (rdS_lens m0 15 l1 []).2; have e93 : ([] : List Int).length = 0 := rfl; omega) (by have q91 := HL1.out; have e91 := HLN1.out; have q92 := (rdS_lens m0 15 l1 []).1; have q93 := (rdS_lens m0 15 l1 []).2; have e93 : ([] : List Int).length = 0 := rfl; omega)).mono ?_
  rintro e w' ⟨rfl, rfl⟩
  go_wp2_with fail
  go_ret
  exact ⟨rfl, HB23.out⟩

set_option maxRecDepth 100000 in
theorem rbdl10_lifted (os : Os) (started : os.Started) (H : Type) (enc : TypeId × Value → H) :
    ReturnsInHanded {} Try.checked os 7 .any (Rows.fnExactReduceByDeletionSpec.pre6 enc Try.prog Try.f7 Rows.fnExactReduceByDeletionRow.domain false) (Rows.fnExactReduceByDeletionSpec.post enc Try.prog Try.f7 false true false false) := by
  refine returnsInHanded_of_change (C := Try.checked) seat_own started (by kernel_rfl) Try.func7
    (ChangeSpec.witness6 (enc := enc) (C := Try.checked) false ⟨#[], #[.slice none 0 0, .slice none 0 0], []⟩ 8 (by kernel_rfl) (by kernel_rfl) (by kernel_rfl) (by kernel_rfl)) ?_
  intro W base args ds gs before hval0 hW hcnd _
  have hval : ∀ (j : Nat) t v, Try.f7.params[j]? = some t → args[j]? = some v → Value.okWide Try.prog W .any base t v := hval0
  have hW' := hW
  obtain ⟨p, q, hA0, hV, rfl, hfz, hnd⟩ := hW
  have hA : DataW.TrodAll enc Try.prog W 0 (fun _ => true) true Try.f7.params.toList args.toList ds p := hA0
  rw [Try.params7] at hA hval
  obtain ⟨u0, u1, d0, d1, p0, p1, rfl, rfl, rfl, h0, h1⟩ := trodAll_two hA
  obtain ⟨rfl, rfl⟩ := trodVars_none hV
  obtain ⟨m0, hm0, hf0⟩ := mat_open (hval 0 24 u0 rfl rfl) h0
  obtain ⟨l1, hr1, hl1⟩ := row_open (hval 1 25 u1 rfl rfl) h1
  clear hA0 hval0
  simp only [List.append_nil] at hW'
  refine (rbdl10_law u0 m0 u1 l1 W hm0 hf0 hr1 hl1).mono fun e W' ⟨he, hw⟩ => ?_
  subst he
  exact ⟨_, rfl, law_post seat_laidOut (by kernel_rfl) rfl (by kernel_rfl) Try.underlying4 hW' rfl hw⟩

theorem rbdl10_holds : Rows.FnExactReduceByDeletionSaid :=
  OpenClaim.holds_of_wide 7 Try.f7 rfl rfl rfl rfl rfl rfl rfl ⟨rfl, rfl, rfl, rfl, rfl⟩ rfl rfl rfl rfl rfl (by kernel_rfl) Try.func7 (by kernel_rfl)
    (of_decide_eq_true (by kernel_rfl)) (by unfold Func.isWrapper; first | (rw [if_pos (by decide +kernel)]; kernel_rfl) | (rw [if_neg (by decide +kernel)]; exact ⟨rfl, rfl⟩))
    (fun os started H enc _ => rbdl10_lifted os started H enc)
end Go.Proofs.Ytbmghddmilgngaa
