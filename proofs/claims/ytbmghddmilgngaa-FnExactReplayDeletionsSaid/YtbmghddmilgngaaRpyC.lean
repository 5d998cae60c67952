/-
  Proved here: for every two lists of ints, the program ReplayDeletions returns what the model returns, in memory of its own, and the law answers true. No condition.
-/
import Derived.Test.YtbmghddmilgngaaLcZ
namespace Go.Proofs.Ytbmghddmilgngaa
open Go.ChangeShapes Go.WideShapes Go.ChangeAt Go.ChangeMaps Go.RowKit

set_option maxHeartbeats 2000000 in
set_option maxRecDepth 100000 in
theorem rpyl10_law (v0 : Value) (l0 : List Int) (v1 : Value) (l1 : List Int) (w : World) (hR0 : RowB w.heap.size w v0 l0) (hl0 : l0.length ≤ maxLen) (hR1 : RowB w.heap.size w v1 l1) (hl1 : l1.length ≤ maxLen) :
    Calls Try.prog 8 #[v0, v1] w fun e w' => e = .returned (.bool true) ∧ Below w.heap.size w w' := by
  obtain ⟨ra0, rcap0, rfl⟩ := hR0.slice
  have hbad0 := hl0; unfold maxLen at hbad0
  by_cases hg0 : l0.length > 1048576
  · clear hR0
    generalize l0.length = n0 at *
    go_enter Try.func8, Try.ntmps8
    go_wp2_with fail
    go_ret
    exact ⟨rfl, Below.refl _ _⟩
  obtain ⟨ra1, rcap1, rfl⟩ := hR1.slice
  have hbad1 := hl1; unfold maxLen at hbad1
  by_cases hg1 : l1.length > 1048576
  · clear hR1
    generalize l1.length = n1 at *
    go_enter Try.func8, Try.ntmps8
    go_wp2_with fail
    go_ret
    exact ⟨rfl, Below.refl _ _⟩
  have HR0 := Lib.hid hR0; have HL0 : Hid (l0.length ≤ 1048576) := Lib.hid (by omega)
  clear hR0
  have HR1 := Lib.hid hR1; have HL1 : Hid (l1.length ≤ 1048576) := Lib.hid (by omega)
  clear hR1
  generalize hln0 : l0.length = n0 at *
  have HLN0 := Lib.hid hln0; clear hln0
  generalize hln1 : l1.length = n1 at *
  have HLN1 := Lib.hid hln1; clear hln1
  go_enter Try.func8, Try.ntmps8
  go_wp2_with fail
  refine (toL_own _ _ l0 _ (HR0.out.below (Below.refl w.heap.size w) (Nat.le_refl _)) ((Below.refl w.heap.size w)).size (by first | exact HL0.out | (rw [HLN0.out]; exact HL0.out))).mono ?_
  rintro e w1 ⟨xa0, rfl, ha0, hb⟩
  have Ha0_1 := Lib.hid ha0; clear ha0
  have HB1 := Lib.hid hb
  have HSZ1 := Lib.hid hb.size
  clear hb
  go_wp2_with fail
  refine (toL_own _ _ l1 _ (HR1.out.below HB1.out (Nat.le_refl _)) (HB1.out).size (by first | exact HL1.out | (rw [HLN1.out]; exact HL1.out))).mono ?_
  rintro e w2 ⟨xa1, rfl, ha1, hb⟩
  have Ha1_2 := Lib.hid ha1; clear ha1
  have HB2 := Lib.hid (HB1.out.trans (hb.mono HB1.out.size))
  have HSZ2 := Lib.hid hb.size
  have Ha0_2 := Lib.hid (Ha0_1.out.step hb)
  clear Ha0_1
  clear hb
  go_wp2_with fail
  refine (rpys_e _ _ l0 l1 _ (RowB.mono Ha0_2.out.rowB Ha0_2.out.2) (RowB.mono Ha1_2.out.rowB Ha1_2.out.2) (by have q90 := HL0.out; have e90 := HLN0.out; omega) (by have q91 := HL1.out; have e91 := HLN1.out; omega)).mono ?_
  rintro e w3 ⟨xs, rfl, hs, hb⟩
  have Hs_3 := Lib.hid hs; clear hs
  have HB3 := Lib.hid (HB2.out.trans (hb.mono HB2.out.size))
  have HSZ3 := Lib.hid hb.size
  have Ha0_3 := Lib.hid (Ha0_2.out.step hb)
  clear Ha0_2
  have Ha1_3 := Lib.hid (Ha1_2.out.step hb)
  clear Ha1_2
  clear hb
  go_wp2_with fail
  clear Ha0_3
  clear Ha1_3
  refine (toL_own _ _ l0 _ (HR0.out.below HB3.out (Nat.le_refl _)) (HB3.out).size (by first | exact HL0.out | (rw [HLN0.out]; exact HL0.out))).mono ?_
  rintro e w4 ⟨xx0, rfl, hx0, hb⟩
  have Hx0_4 := Lib.hid hx0; clear hx0
  have HB4 := Lib.hid (HB3.out.trans (hb.mono HB3.out.size))
  have HSZ4 := Lib.hid hb.size
  have Hs_4 := Lib.hid (Hs_3.out.step hb)
  clear Hs_3
  clear hb
  go_wp2_with fail
  refine (toL_own _ _ l1 _ (HR1.out.below HB4.out (Nat.le_refl _)) (HB4.out).size (by first | exact HL1.out | (rw [HLN1.out]; exact HL1.out))).mono ?_
  rintro e w5 ⟨xx1, rfl, hx1, hb⟩
  have Hx1_5 := Lib.hid hx1; clear hx1
  have HB5 := Lib.hid (HB4.out.trans (hb.mono HB4.out.size))
  have HSZ5 := Lib.hid hb.size
  have Hs_5 := Lib.hid (Hs_4.out.step hb)
  clear Hs_4
  have Hx0_5 := Lib.hid (Hx0_4.out.step hb)
  clear Hx0_4
  clear hb
  go_wp2_with fail
  refine (rpyi_e _ _ l0 l1 _ (RowB.mono Hx0_5.out.rowB Hx0_5.out.2) (RowB.mono Hx1_5.out.rowB Hx1_5.out.2) Hx0_5.out.1.roomy (by have q90 := HL0.out; have e90 := HLN0.out; omega) (by have q91 := HL1.out; have e91 := HLN1.out; omega)).mono ?_
  rintro e w6 ⟨xg, rfl, hg, hb⟩
  have Hg_6 := Lib.hid hg; clear hg
  have HB6 := Lib.hid (HB5.out.trans (hb.mono HB5.out.size))
  have HSZ6 := Lib.hid hb.size
  have Hs_6 := Lib.hid (Hs_5.out.step hb)
  clear Hs_5
  have Hx0_6 := Lib.hid (Hx0_5.out.step hb)
  clear Hx0_5
  have Hx1_6 := Lib.hid (Hx1_5.out.step hb)
  clear Hx1_5
  clear hb
  go_wp2_with fail
  refine (eqL_same _ _ _ _ (rpL l0 l1) _ Hg_6.out.rowB Hs_6.out.rowB (by have q90 := HL0.out; have e90 := HLN0.out; have q91 := HL1.out; have e91 := HLN1.out; have := rpL_len l0 l1; unfold maxLen; omega)).mono ?_
  rintro e w7 ⟨rfl, hq⟩
  have hb : Below w6.heap.size w6 w7 := by obtain ⟨q, hq'⟩ := hq; rw [hq']; exact below_drewN q
  clear hq
  have HB7 := Lib.hid (HB6.out.trans (hb.mono HB6.out.size))
  have HSZ7 := Lib.hid hb.size
  have Hs_7 := Lib.hid (Hs_6.out.step hb)
  clear Hs_6
  have Hx0_7 := Lib.hid (Hx0_6.out.step hb)
  clear Hx0_6
  have Hx1_7 := Lib.hid (Hx1_6.out.step hb)
  clear Hx1_6
  have Hg_7 := Lib.hid (Hg_6.out.step hb)
  clear Hg_6
  clear hb
  go_wp2_with fail
  refine (toL_own _ _ l0 _ (HR0.out.below HB7.out (Nat.le_refl _)) (HB7.out).size (by first | exact HL0.out | (rw [HLN0.out]; exact HL0.out))).mono ?_
  rintro e w8 ⟨xc0, rfl, hc0, hb⟩
  have Hc0_8 := Lib.hid hc0; clear hc0
  have HB8 := Lib.hid (HB7.out.trans (hb.mono HB7.out.size))
  have HSZ8 := Lib.hid hb.size
  have Hs_8 := Lib.hid (Hs_7.out.step hb)
  clear Hs_7
  have Hx0_8 := Lib.hid (Hx0_7.out.step hb)
  clear Hx0_7
  have Hx1_8 := Lib.hid (Hx1_7.out.step hb)
  clear Hx1_7
  have Hg_8 := Lib.hid (Hg_7.out.step hb)
  clear Hg_7
  clear hb
  go_wp2_with fail
  refine (eqL_same _ _ _ _ l0 _ Hx0_8.out.rowB Hc0_8.out.rowB (by have e9 := HLN0.out; have := HL0.out; unfold maxLen; omega)).mono ?_
  rintro e w9 ⟨rfl, hq⟩
  have hb : Below w8.heap.size w8 w9 := by obtain ⟨q, hq'⟩ := hq; rw [hq']; exact below_drewN q
  clear hq
  have HB9 := Lib.hid (HB8.out.trans (hb.mono HB8.out.size))
  have HSZ9 := Lib.hid hb.size
  have Hs_9 := Lib.hid (Hs_8.out.step hb)
  clear Hs_8
  have Hx0_9 := Lib.hid (Hx0_8.out.step hb)
  clear Hx0_8
  have Hx1_9 := Lib.hid (Hx1_8.out.step hb)
  clear Hx1_8
  have Hg_9 := Lib.hid (Hg_8.out.step hb)
  clear Hg_8
  have Hc0_9 := Lib.hid (Hc0_8.out.step hb)
  clear Hc0_8
  clear hb
  go_wp2_with fail
  clear Hc0_9
  refine (toL_own _ _ l1 _ (HR1.out.below HB9.out (Nat.le_refl _)) (HB9.out).size (by first | exact HL1.out | (rw [HLN1.out]; exact HL1.out))).mono ?_
  rintro e w10 ⟨xc1, rfl, hc1, hb⟩
  have Hc1_10 := Lib.hid hc1; clear hc1
  have HB10 := Lib.hid (HB9.out.trans (hb.mono HB9.out.size))
  have HSZ10 := Lib.hid hb.size
  have Hs_10 := Lib.hid (Hs_9.out.step hb)
  clear Hs_9
  have Hx0_10 := Lib.hid (Hx0_9.out.step hb)
  clear Hx0_9
  have Hx1_10 := Lib.hid (Hx1_9.out.step hb)
  clear Hx1_9
  have Hg_10 := Lib.hid (Hg_9.out.step hb)
  clear Hg_9
  clear hb
  go_wp2_with fail
  refine (eqL_same _ _ _ _ l1 _ Hx1_10.out.rowB Hc1_10.out.rowB (by have e9 := HLN1.out; have := HL1.out; unfold maxLen; omega)).mono ?_
  rintro e w11 ⟨rfl, hq⟩
  have hb : Below w10.heap.size w10 w11 := by obtain ⟨q, hq'⟩ := hq; rw [hq']; exact below_drewN q
  clear hq
  have HB11 := Lib.hid (HB10.out.trans (hb.mono HB10.out.size))
  have HSZ11 := Lib.hid hb.size
  have Hs_11 := Lib.hid (Hs_10.out.step hb)
  clear Hs_10
  have Hx0_11 := Lib.hid (Hx0_10.out.step hb)
  clear Hx0_10
  have Hx1_11 := Lib.hid (Hx1_10.out.step hb)
  clear Hx1_10
  have Hg_11 := Lib.hid (Hg_10.out.step hb)
  clear Hg_10
  have Hc1_11 := Lib.hid (Hc1_10.out.step hb)
  clear Hc1_10
  clear hb
  go_wp2_with fail
  clear Hc1_11
  refine (markL_own _ _ _ l0 (1) _ Hx0_11.out (by have e9 := HLN0.out; have q9 := HL0.out; omega) (by have q90 := HL0.out; have e90 := HLN0.out; have q91 := HL1.out; have e91 := HLN1.out; omega)).mono ?_
  rintro e w12 ⟨rfl, hx0, ho⟩
  clear Hx0_11
  have Hx0_12 := Lib.hid hx0; clear hx0
  have HB12 := Lib.hid (ho.below (HB3.out.size) HB11.out)
  have HSZ12 : Hid (w11.heap.size ≤ w12.heap.size) := Lib.hid (Nat.le_of_eq ho.size.symm)
  have Hs_12 := Lib.hid (Hs_11.out.only ho (Or.inl (by exact Nat.le_refl _)))
  clear Hs_11
  have Hx1_12 := Lib.hid (Hx1_11.out.only ho (Or.inr (by exact Nat.le_refl _)))
  clear Hx1_11
  have Hg_12 := Lib.hid (Hg_11.out.only ho (Or.inr (by have q5 := HSZ5.out; omega)))
  clear Hg_11
  clear ho
  go_wp2_with fail
  refine (markL_own _ _ _ l1 (1 + l0.length) _ Hx1_12.out (by have e9 := HLN1.out; have q9 := HL1.out; omega) (by have q90 := HL0.out; have e90 := HLN0.out; have q91 := HL1.out; have e91 := HLN1.out; omega)).mono ?_
  rintro e w13 ⟨rfl, hx1, ho⟩
  clear Hx1_12
  have Hx1_13 := Lib.hid hx1; clear hx1
  have HB13 := Lib.hid (ho.below (HB4.out.size) HB12.out)
  have HSZ13 : Hid (w12.heap.size ≤ w13.heap.size) := Lib.hid (Nat.le_of_eq ho.size.symm)
  have Hs_13 := Lib.hid (Hs_12.out.only ho (Or.inl (by have q4 := HSZ4.out; omega)))
  clear Hs_12
  have Hx0_13 := Lib.hid (Hx0_12.out.only ho (Or.inl (by exact Nat.le_refl _)))
  clear Hx0_12
  have Hg_13 := Lib.hid (Hg_12.out.only ho (Or.inr (by exact Nat.le_refl _)))
  clear Hg_12
  clear ho
  go_wp2_with fail
  refine (eqL_same _ _ _ _ (rpL l0 l1) _ Hg_13.out.rowB Hs_13.out.rowB (by have q90 := HL0.out; have e90 := HLN0.out; have q91 := HL1.out; have e91 := HLN1.out; have := rpL_len l0 l1; unfold maxLen; omega)).mono ?_
  rintro e w14 ⟨rfl, hq⟩
  have hb : Below w13.heap.size w13 w14 := by obtain ⟨q, hq'⟩ := hq; rw [hq']; exact below_drewN q
  clear hq
  have HB14 := Lib.hid (HB13.out.trans (hb.mono HB13.out.size))
  have HSZ14 := Lib.hid hb.size
  have Hs_14 := Lib.hid (Hs_13.out.step hb)
  clear Hs_13
  have Hx0_14 := Lib.hid (Hx0_13.out.step hb)
  clear Hx0_13
  have Hx1_14 := Lib.hid (Hx1_13.out.step hb)
  clear Hx1_13
  have Hg_14 := Lib.hid (Hg_13.out.step hb)
  clear Hg_13
  clear hb
  go_wp2_with fail
  clear Hx0_14
  clear Hx1_14
  refine (markL_own _ _ _ (rpL l0 l1) (1) _ Hg_14.out (by have q90 := HL0.out; have e90 := HLN0.out; have q91 := HL1.out; have e91 := HLN1.out; have := rpL_len l0 l1; omega) (by have q90 := HL0.out; have e90 := HLN0.out; have q91 := HL1.out; have e91 := HLN1.out; omega)).mono ?_
  rintro e w15 ⟨rfl, hg, ho⟩
  clear Hg_14
  have Hg_15 := Lib.hid hg; clear hg
  have HB15 := Lib.hid (ho.below (HB5.out.size) HB14.out)
  have HSZ15 : Hid (w14.heap.size ≤ w15.heap.size) := Lib.hid (Nat.le_of_eq ho.size.symm)
  have Hs_15 := Lib.hid (Hs_14.out.only ho (Or.inl (by have q4 := HSZ4.out; have q5 := HSZ5.out; omega)))
  clear Hs_14
  clear ho
  go_wp2_with fail
  refine (heldL_own _ _ ((rpL l0 l1)).length 1 _ Hg_15.out.rowB (by have q90 := HL0.out; have e90 := HLN0.out; have q91 := HL1.out; have e91 := HLN1.out; have := rpL_len l0 l1; omega) (by omega)).mono ?_
  rintro e w' ⟨rfl, rfl⟩
  go_wp2_with fail
  refine (toL_own _ _ l0 _ (HR0.out.below HB15.out (Nat.le_refl _)) (HB15.out).size (by first | exact HL0.out | (rw [HLN0.out]; exact HL0.out))).mono ?_
  rintro e w16 ⟨xy0, rfl, hy0, hb⟩
  have Hy0_16 := Lib.hid hy0; clear hy0
  have HB16 := Lib.hid (HB15.out.trans (hb.mono HB15.out.size))
  have HSZ16 := Lib.hid hb.size
  have Hs_16 := Lib.hid (Hs_15.out.step hb)
  clear Hs_15
  have Hg_16 := Lib.hid (Hg_15.out.step hb)
  clear Hg_15
  clear hb
  go_wp2_with fail
  refine (toL_own _ _ l1 _ (HR1.out.below HB16.out (Nat.le_refl _)) (HB16.out).size (by first | exact HL1.out | (rw [HLN1.out]; exact HL1.out))).mono ?_
  rintro e w17 ⟨xy1, rfl, hy1, hb⟩
  have Hy1_17 := Lib.hid hy1; clear hy1
  have HB17 := Lib.hid (HB16.out.trans (hb.mono HB16.out.size))
  have HSZ17 := Lib.hid hb.size
  have Hs_17 := Lib.hid (Hs_16.out.step hb)
  clear Hs_16
  have Hg_17 := Lib.hid (Hg_16.out.step hb)
  clear Hg_16
  have Hy0_17 := Lib.hid (Hy0_16.out.step hb)
  clear Hy0_16
  clear hb
  go_wp2_with fail
  refine (rpyi_e _ _ l0 l1 _ (RowB.mono Hy0_17.out.rowB Hy0_17.out.2) (RowB.mono Hy1_17.out.rowB Hy1_17.out.2) Hy0_17.out.1.roomy (by have q90 := HL0.out; have e90 := HLN0.out; omega) (by have q91 := HL1.out; have e91 := HLN1.out; omega)).mono ?_
  rintro e w18 ⟨xh, rfl, hh, hb⟩
  have Hh_18 := Lib.hid hh; clear hh
  have HB18 := Lib.hid (HB17.out.trans (hb.mono HB17.out.size))
  have HSZ18 := Lib.hid hb.size
  have Hs_18 := Lib.hid (Hs_17.out.step hb)
  clear Hs_17
  have Hg_18 := Lib.hid (Hg_17.out.step hb)
  clear Hg_17
  have Hy0_18 := Lib.hid (Hy0_17.out.step hb)
  clear Hy0_17
  have Hy1_18 := Lib.hid (Hy1_17.out.step hb)
  clear Hy1_17
  clear hb
  go_wp2_with fail
  clear Hy0_18
  clear Hy1_18
  refine (eqL_same _ _ _ _ (rpL l0 l1) _ Hh_18.out.rowB Hs_18.out.rowB (by have q90 := HL0.out; have e90 := HLN0.out; have q91 := HL1.out; have e91 := HLN1.out; have := rpL_len l0 l1; unfold maxLen; omega)).mono ?_
  rintro e w19 ⟨rfl, hq⟩
  have hb : Below w18.heap.size w18 w19 := by obtain ⟨q, hq'⟩ := hq; rw [hq']; exact below_drewN q
  clear hq
  have HB19 := Lib.hid (HB18.out.trans (hb.mono HB18.out.size))
  have HSZ19 := Lib.hid hb.size
  have Hs_19 := Lib.hid (Hs_18.out.step hb)
  clear Hs_18
  have Hg_19 := Lib.hid (Hg_18.out.step hb)
  clear Hg_18
  have Hh_19 := Lib.hid (Hh_18.out.step hb)
  clear Hh_18
  clear hb
  go_wp2_with fail
  refine (heldL_own _ _ ((rpL l0 l1)).length 1 _ Hg_19.out.rowB (by have q90 := HL0.out; have e90 := HLN0.out; have q91 := HL1.out; have e91 := HLN1.out; have := rpL_len l0 l1; omega) (by omega)).mono ?_
  rintro e w' ⟨rfl, rfl⟩
  go_wp2_with fail
  go_ret
  exact ⟨rfl, HB19.out⟩

set_option maxRecDepth 100000 in
theorem rpyl10_lifted (os : Os) (started : os.Started) (H : Type) (enc : TypeId × Value → H) :
    ReturnsInHanded {} Try.checked os 8 .any (Rows.fnExactReplayDeletionsSpec.pre6 enc Try.prog Try.f8 Rows.fnExactReplayDeletionsRow.domain false) (Rows.fnExactReplayDeletionsSpec.post enc Try.prog Try.f8 false true false false) := by
  refine returnsInHanded_of_change (C := Try.checked) seat_own started (by kernel_rfl) Try.func8
    (ChangeSpec.witness6 (enc := enc) (C := Try.checked) false ⟨#[], #[.slice none 0 0, .slice none 0 0], []⟩ 8 (by kernel_rfl) (by kernel_rfl) (by kernel_rfl) (by kernel_rfl)) ?_
  intro W base args ds gs before hval0 hW hcnd _
  have hval : ∀ (j : Nat) t v, Try.f8.params[j]? = some t → args[j]? = some v → Value.okWide Try.prog W .any base t v := hval0
  have hW' := hW
  obtain ⟨p, q, hA0, hV, rfl, hfz, hnd⟩ := hW
  have hA : DataW.TrodAll enc Try.prog W 0 (fun _ => true) true Try.f8.params.toList args.toList ds p := hA0
  rw [Try.params8] at hA hval
  obtain ⟨u0, u1, d0, d1, p0, p1, rfl, rfl, rfl, h0, h1⟩ := trodAll_two hA
  obtain ⟨rfl, rfl⟩ := trodVars_none hV
  obtain ⟨l0, hr0, hl0⟩ := row_open (hval 0 25 u0 rfl rfl) h0
  obtain ⟨l1, hr1, hl1⟩ := row_open (hval 1 25 u1 rfl rfl) h1
  clear hA0 hval0
  simp only [List.append_nil] at hW'
  refine (rpyl10_law u0 l0 u1 l1 W hr0 hl0 hr1 hl1).mono fun e W' ⟨he, hw⟩ => ?_
  subst he
  exact ⟨_, rfl, law_post seat_laidOut (by kernel_rfl) rfl (by kernel_rfl) Try.underlying4 hW' rfl hw⟩

theorem rpyl10_holds : Rows.FnExactReplayDeletionsSaid :=
  OpenClaim.holds_of_wide 8 Try.f8 rfl rfl rfl rfl rfl rfl rfl ⟨rfl, rfl, rfl, rfl, rfl⟩ rfl rfl rfl rfl rfl (by kernel_rfl) Try.func8 (by kernel_rfl)
    (of_decide_eq_true (by kernel_rfl)) (by unfold Func.isWrapper; first | (rw [if_pos (by decide +kernel)]; kernel_rfl) | (rw [if_neg (by decide +kernel)]; exact ⟨rfl, rfl⟩))
    (fun os started H enc _ => rpyl10_lifted os started H enc)
end Go.Proofs.Ytbmghddmilgngaa
