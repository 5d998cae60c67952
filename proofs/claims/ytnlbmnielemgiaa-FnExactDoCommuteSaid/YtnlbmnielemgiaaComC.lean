/-
  Proved here: for every matrix of ints and every two lists of ints, the program DoCommute returns what the model returns, and the law answers true. No condition.
-/
import Derived.Test.YtnlbmnielemgiaaLcZ
namespace Go.Proofs.Ytnlbmnielemgiaa
open Go.ChangeShapes Go.WideShapes Go.ChangeAt Go.ChangeMaps Go.RowKit

set_option maxHeartbeats 2000000 in
set_option maxRecDepth 100000 in
theorem coml9_law (v0 : Value) (m0 : List (List Int)) (v1 : Value) (l1 : List Int) (v2 : Value) (l2 : List Int) (w : World) (hM0 : MatB w.heap.size w v0 m0) (hf0 : RowsFit m0) (hR1 : RowB w.heap.size w v1 l1) (hl1 : l1.length ≤ maxLen) (hR2 : RowB w.heap.size w v2 l2) (hl2 : l2.length ≤ maxLen) :
    Calls Try.prog 13 #[v0, v1, v2] w fun e w' => e = .returned (.bool true) ∧ Below w.heap.size w w' := by
  obtain ⟨ra1, rcap1, rfl⟩ := hR1.slice
  have hbad1 := hl1; unfold maxLen at hbad1
  by_cases hg1 : l1.length > 1048576
  · clear hR1
    generalize l1.length = n1 at *
    go_enter Try.func13, Try.ntmps13
    go_wp2_with fail
    go_ret
    exact ⟨rfl, Below.refl _ _⟩
  obtain ⟨ra2, rcap2, rfl⟩ := hR2.slice
  have hbad2 := hl2; unfold maxLen at hbad2
  by_cases hg2 : l2.length > 1048576
  · clear hR2
    generalize l2.length = n2 at *
    go_enter Try.func13, Try.ntmps13
    go_wp2_with fail
    go_ret
    exact ⟨rfl, Below.refl _ _⟩
  by_cases hz0 : szSum m0 ≤ 1048576
  case neg =>
    have HZ0 := Lib.hid (szI_no hz0)
    have HM0 := Lib.hid hM0; have HF0 := Lib.hid hf0
    go_enter Try.func13, Try.ntmps13
    go_wp2_with fail
    refine (szSS_any _ _ m0 (1048576) _ HM0.out HF0.out (by omega)).mono ?_
    rintro e w' ⟨rfl, rfl⟩
    rw [HZ0.out]
    go_wp2_with fail
    go_ret
    exact ⟨rfl, Below.refl _ _⟩
  have HS0 := Lib.hid (small_of (m := m0) (by omega))
  have HT0 : Hid (szSum m0 ≤ 1048576) := Lib.hid (by omega)
  have HZ0 := Lib.hid (szI_yes hz0)
  have HM0 := Lib.hid hM0; have HF0 := Lib.hid hf0
  clear hM0 hf0
  have HR1 := Lib.hid hR1; have HL1 : Hid (l1.length ≤ 1048576) := Lib.hid (by omega)
  clear hR1
  have HR2 := Lib.hid hR2; have HL2 : Hid (l2.length ≤ 1048576) := Lib.hid (by omega)
  clear hR2
  generalize hln1 : l1.length = n1 at *
  have HLN1 := Lib.hid hln1; clear hln1
  generalize hln2 : l2.length = n2 at *
  have HLN2 := Lib.hid hln2; clear hln2
  go_enter Try.func13, Try.ntmps13
  go_wp2_with fail
  refine (szSS_any _ _ m0 (1048576) _ HM0.out HF0.out (by omega)).mono ?_
  rintro e w' ⟨rfl, rfl⟩
  have hcast0 : ((1048576 : Nat) : Int) - (szSum m0 : Nat) = ((1048576 - szSum m0 : Nat) : Int) := by omega
  rw [HZ0.out, hcast0]
  clear hcast0
  go_wp2_with fail
  refine (toM_own _ _ m0 _ (HM0.out.below (Below.refl w.heap.size w) (Nat.le_refl _)) ((Below.refl w.heap.size w)).size HS0.out).mono ?_
  rintro e w1 ⟨xa0, rfl, ha0, hb⟩
  have Ha0_1 := Lib.hid ha0; clear ha0
  have HB1 := Lib.hid hb
  have HSZ1 := Lib.hid hb.size
  clear hb
  go_wp2_with fail
  refine (toL_own _ _ l1 _ (HR1.out.below HB1.out (Nat.le_refl _)) (HB1.out).size (by first | exact HL1.out | (rw [HLN1.out]; exact HL1.out))).mono ?_
  rintro e w2 ⟨xa1, rfl, ha1, hb⟩
  have Ha1_2 := Lib.hid ha1; clear ha1
  have HB2 := Lib.hid (HB1.out.trans (hb.mono HB1.out.size))
  have HSZ2 := Lib.hid hb.size
  have Ha0_2 := Lib.hid (Ha0_1.out.step hb)
  clear Ha0_1
  clear hb
  go_wp2_with fail
  refine (toL_own _ _ l2 _ (HR2.out.below HB2.out (Nat.le_refl _)) (HB2.out).size (by first | exact HL2.out | (rw [HLN2.out]; exact HL2.out))).mono ?_
  rintro e w3 ⟨xa2, rfl, ha2, hb⟩
  have Ha2_3 := Lib.hid ha2; clear ha2
  have HB3 := Lib.hid (HB2.out.trans (hb.mono HB2.out.size))
  have HSZ3 := Lib.hid hb.size
  have Ha0_3 := Lib.hid (Ha0_2.out.step hb)
  clear Ha0_2
  have Ha1_3 := Lib.hid (Ha1_2.out.step hb)
  clear Ha1_2
  clear hb
  go_wp2_with fail
  refine (coms_e _ _ _ m0 l1 l2 _ (MatB.mono Ha0_3.out.matB Ha0_3.out.2) (RowB.mono Ha1_3.out.rowB Ha1_3.out.2) (RowB.mono Ha2_3.out.rowB Ha2_3.out.2) HF0.out (by have q91 := HL1.out; have e91 := HLN1.out; omega) (by have q92 := HL2.out; have e92 := HLN2.out; omega)).mono ?_
  rintro e w4 ⟨rfl, hb⟩
  have HB4 := Lib.hid (HB3.out.trans (hb.mono HB3.out.size))
  have HSZ4 := Lib.hid hb.size
  have Ha0_4 := Lib.hid (Ha0_3.out.step hb)
  clear Ha0_3
  have Ha1_4 := Lib.hid (Ha1_3.out.step hb)
  clear Ha1_3
  have Ha2_4 := Lib.hid (Ha2_3.out.step hb)
  clear Ha2_3
  clear hb
  go_wp2_with fail
  clear Ha0_4
  clear Ha1_4
  clear Ha2_4
  refine (toM_own _ _ m0 _ (HM0.out.below HB4.out (Nat.le_refl _)) (HB4.out).size HS0.out).mono ?_
  rintro e w5 ⟨xx0, rfl, hx0, hb⟩
  have Hx0_5 := Lib.hid hx0; clear hx0
  have HB5 := Lib.hid (HB4.out.trans (hb.mono HB4.out.size))
  have HSZ5 := Lib.hid hb.size
  clear hb
  go_wp2_with fail
  refine (toL_own _ _ l1 _ (HR1.out.below HB5.out (Nat.le_refl _)) (HB5.out).size (by first | exact HL1.out | (rw [HLN1.out]; exact HL1.out))).mono ?_
  rintro e w6 ⟨xx1, rfl, hx1, hb⟩
  have Hx1_6 := Lib.hid hx1; clear hx1
  have HB6 := Lib.hid (HB5.out.trans (hb.mono HB5.out.size))
  have HSZ6 := Lib.hid hb.size
  have Hx0_6 := Lib.hid (Hx0_5.out.step hb)
  clear Hx0_5
  clear hb
  go_wp2_with fail
  refine (toL_own _ _ l2 _ (HR2.out.below HB6.out (Nat.le_refl _)) (HB6.out).size (by first | exact HL2.out | (rw [HLN2.out]; exact HL2.out))).mono ?_
  rintro e w7 ⟨xx2, rfl, hx2, hb⟩
  have Hx2_7 := Lib.hid hx2; clear hx2
  have HB7 := Lib.hid (HB6.out.trans (hb.mono HB6.out.size))
  have HSZ7 := Lib.hid hb.size
  have Hx0_7 := Lib.hid (Hx0_6.out.step hb)
  clear Hx0_6
  have Hx1_7 := Lib.hid (Hx1_6.out.step hb)
  clear Hx1_6
  clear hb
  go_wp2_with fail
  refine (comi_e _ _ _ m0 l1 l2 _ (MatB.mono Hx0_7.out.matB Hx0_7.out.2) (RowB.mono Hx1_7.out.rowB Hx1_7.out.2) (RowB.mono Hx2_7.out.rowB Hx2_7.out.2) HF0.out (by have q91 := HL1.out; have e91 := HLN1.out; omega) (by have q92 := HL2.out; have e92 := HLN2.out; omega)).mono ?_
  rintro e w8 ⟨rfl, hb⟩
  have HB8 := Lib.hid (HB7.out.trans (hb.mono HB7.out.size))
  have HSZ8 := Lib.hid hb.size
  have Hx0_8 := Lib.hid (Hx0_7.out.step hb)
  clear Hx0_7
  have Hx1_8 := Lib.hid (Hx1_7.out.step hb)
  clear Hx1_7
  have Hx2_8 := Lib.hid (Hx2_7.out.step hb)
  clear Hx2_7
  clear hb
  go_wp2_with fail
  refine (toM_own _ _ m0 _ (HM0.out.below HB8.out (Nat.le_refl _)) (HB8.out).size HS0.out).mono ?_
  rintro e w9 ⟨xc0, rfl, hc0, hb⟩
  have Hc0_9 := Lib.hid hc0; clear hc0
  have HB9 := Lib.hid (HB8.out.trans (hb.mono HB8.out.size))
  have HSZ9 := Lib.hid hb.size
  have Hx0_9 := Lib.hid (Hx0_8.out.step hb)
  clear Hx0_8
  have Hx1_9 := Lib.hid (Hx1_8.out.step hb)
  clear Hx1_8
  have Hx2_9 := Lib.hid (Hx2_8.out.step hb)
  clear Hx2_8
  clear hb
  go_wp2_with fail
  refine (eqM_same _ _ _ _ m0 _ Hx0_9.out.matB Hc0_9.out.matB HF0.out).mono ?_
  rintro e w10 ⟨rfl, hq⟩
  have hb : Below w9.heap.size w9 w10 := by obtain ⟨q, hq'⟩ := hq; rw [hq']; exact below_drewN q
  clear hq
  have HB10 := Lib.hid (HB9.out.trans (hb.mono HB9.out.size))
  have HSZ10 := Lib.hid hb.size
  have Hx0_10 := Lib.hid (Hx0_9.out.step hb)
  clear Hx0_9
  have Hx1_10 := Lib.hid (Hx1_9.out.step hb)
  clear Hx1_9
  have Hx2_10 := Lib.hid (Hx2_9.out.step hb)
  clear Hx2_9
  have Hc0_10 := Lib.hid (Hc0_9.out.step hb)
  clear Hc0_9
  clear hb
  go_wp2_with fail
  clear Hc0_10
  refine (toL_own _ _ l1 _ (HR1.out.below HB10.out (Nat.le_refl _)) (HB10.out).size (by first | exact HL1.out | (rw [HLN1.out]; exact HL1.out))).mono ?_
  rintro e w11 ⟨xc1, rfl, hc1, hb⟩
  have Hc1_11 := Lib.hid hc1; clear hc1
  have HB11 := Lib.hid (HB10.out.trans (hb.mono HB10.out.size))
  have HSZ11 := Lib.hid hb.size
  have Hx0_11 := Lib.hid (Hx0_10.out.step hb)
  clear Hx0_10
  have Hx1_11 := Lib.hid (Hx1_10.out.step hb)
  clear Hx1_10
  have Hx2_11 := Lib.hid (Hx2_10.out.step hb)
  clear Hx2_10
  clear hb
  go_wp2_with fail
  refine (eqL_same _ _ _ _ l1 _ Hx1_11.out.rowB Hc1_11.out.rowB (by have e9 := HLN1.out; have := HL1.out; unfold maxLen; omega)).mono ?_
  rintro e w12 ⟨rfl, hq⟩
  have hb : Below w11.heap.size w11 w12 := by obtain ⟨q, hq'⟩ := hq; rw [hq']; exact below_drewN q
  clear hq
  have HB12 := Lib.hid (HB11.out.trans (hb.mono HB11.out.size))
  have HSZ12 := Lib.hid hb.size
  have Hx0_12 := Lib.hid (Hx0_11.out.step hb)
  clear Hx0_11
  have Hx1_12 := Lib.hid (Hx1_11.out.step hb)
  clear Hx1_11
  have Hx2_12 := Lib.hid (Hx2_11.out.step hb)
  clear Hx2_11
  have Hc1_12 := Lib.hid (Hc1_11.out.step hb)
  clear Hc1_11
  clear hb
  go_wp2_with fail
  clear Hc1_12
  refine (toL_own _ _ l2 _ (HR2.out.below HB12.out (Nat.le_refl _)) (HB12.out).size (by first | exact HL2.out | (rw [HLN2.out]; exact HL2.out))).mono ?_
  rintro e w13 ⟨xc2, rfl, hc2, hb⟩
  have Hc2_13 := Lib.hid hc2; clear hc2
  have HB13 := Lib.hid (HB12.out.trans (hb.mono HB12.out.size))
  have HSZ13 := Lib.hid hb.size
  have Hx0_13 := Lib.hid (Hx0_12.out.step hb)
  clear Hx0_12
  have Hx1_13 := Lib.hid (Hx1_12.out.step hb)
  clear Hx1_12
  have Hx2_13 := Lib.hid (Hx2_12.out.step hb)
  clear Hx2_12
  clear hb
  go_wp2_with fail
  refine (eqL_same _ _ _ _ l2 _ Hx2_13.out.rowB Hc2_13.out.rowB (by have e9 := HLN2.out; have := HL2.out; unfold maxLen; omega)).mono ?_
  rintro e w14 ⟨rfl, hq⟩
  have hb : Below w13.heap.size w13 w14 := by obtain ⟨q, hq'⟩ := hq; rw [hq']; exact below_drewN q
  clear hq
  have HB14 := Lib.hid (HB13.out.trans (hb.mono HB13.out.size))
  have HSZ14 := Lib.hid hb.size
  have Hx0_14 := Lib.hid (Hx0_13.out.step hb)
  clear Hx0_13
  have Hx1_14 := Lib.hid (Hx1_13.out.step hb)
  clear Hx1_13
  have Hx2_14 := Lib.hid (Hx2_13.out.step hb)
  clear Hx2_13
  have Hc2_14 := Lib.hid (Hc2_13.out.step hb)
  clear Hc2_13
  clear hb
  go_wp2_with fail
  clear Hc2_14
  go_ret
  exact ⟨rfl, HB14.out⟩

set_option maxRecDepth 100000 in
theorem coml9_lifted (os : Os) (started : os.Started) (H : Type) (enc : TypeId × Value → H) :
    ReturnsInHanded {} Try.checked os 13 .any (Rows.fnExactDoCommuteSpec.pre6 enc Try.prog Try.f13 Rows.fnExactDoCommuteRow.domain false) (Rows.fnExactDoCommuteSpec.post enc Try.prog Try.f13 false true false false) := by
  refine returnsInHanded_of_change (C := Try.checked) seat_own started (by kernel_rfl) Try.func13
    (ChangeSpec.witness6 (enc := enc) (C := Try.checked) false ⟨#[], #[.slice none 0 0, .slice none 0 0, .slice none 0 0], []⟩ 8 (by kernel_rfl) (by kernel_rfl) (by kernel_rfl) (by kernel_rfl)) ?_
  intro W base args ds gs before hval0 hW hcnd _
  have hval : ∀ (j : Nat) t v, Try.f13.params[j]? = some t → args[j]? = some v → Value.okWide Try.prog W .any base t v := hval0
  have hW' := hW
  obtain ⟨p, q, hA0, hV, rfl, hfz, hnd⟩ := hW
  have hA : DataW.TrodAll enc Try.prog W 0 (fun _ => true) true Try.f13.params.toList args.toList ds p := hA0
  rw [Try.params13] at hA hval
  obtain ⟨u0, u1, u2, d0, d1, d2, p0, p1, p2, rfl, rfl, rfl, h0, h1, h2⟩ := trodAll_three hA
  obtain ⟨rfl, rfl⟩ := trodVars_none hV
  obtain ⟨m0, hm0, hf0⟩ := mat_open (hval 0 24 u0 rfl rfl) h0
  obtain ⟨l1, hr1, hl1⟩ := row_open (hval 1 25 u1 rfl rfl) h1
  obtain ⟨l2, hr2, hl2⟩ := row_open (hval 2 25 u2 rfl rfl) h2
  clear hA0 hval0
  simp only [List.append_nil] at hW'
  refine (coml9_law u0 m0 u1 l1 u2 l2 W hm0 hf0 hr1 hl1 hr2 hl2).mono fun e W' ⟨he, hw⟩ => ?_
  subst he
  exact ⟨_, rfl, law_post seat_laidOut (by kernel_rfl) rfl (by kernel_rfl) Try.underlying4 hW' rfl hw⟩

theorem coml9_holds : Rows.FnExactDoCommuteSaid :=
  OpenClaim.holds_of_wide 13 Try.f13 rfl rfl rfl rfl rfl rfl rfl ⟨rfl, rfl, rfl, rfl, rfl⟩ rfl rfl rfl rfl rfl (by kernel_rfl) Try.func13 (by kernel_rfl)
    (of_decide_eq_true (by kernel_rfl)) (by unfold Func.isWrapper; first | (rw [if_pos (by decide +kernel)]; kernel_rfl) | (rw [if_neg (by decide +kernel)]; exact ⟨rfl, rfl⟩))
    (fun os started H enc _ => coml9_lifted os started H enc)
end Go.Proofs.Ytnlbmnielemgiaa
