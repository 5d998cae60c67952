/-
  Proved here: for every matrix of ints and every list of ints and every int, the program ExchangeIndex returns what the model returns, and the law answers true. No condition.
-/
import Derived.Test.YtbmghddmilgngaaLcZ
namespace Go.Proofs.Ytbmghddmilgngaa
open Go.ChangeShapes Go.WideShapes Go.ChangeAt Go.ChangeMaps Go.RowKit

set_option maxHeartbeats 2000000 in
set_option maxRecDepth 100000 in
theorem exil10_law (v0 : Value) (m0 : List (List Int)) (v1 : Value) (l1 : List Int) (i2 : Int) (w : World) (hM0 : MatB w.heap.size w v0 m0) (hf0 : RowsFit m0) (hR1 : RowB w.heap.size w v1 l1) (hl1 : l1.length ≤ maxLen) :
    Calls Try.prog 4 #[v0, v1, .int .i64 i2] w fun e w' => e = .returned (.bool true) ∧ Below w.heap.size w w' := by
  obtain ⟨ra1, rcap1, rfl⟩ := hR1.slice
  have hbad1 := hl1; unfold maxLen at hbad1
  by_cases hg1 : l1.length > 1048576
  · clear hR1
    generalize l1.length = n1 at *
    go_enter Try.func4, Try.ntmps4
    go_wp2_with fail
    go_ret
    exact ⟨rfl, Below.refl _ _⟩
  by_cases hz0 : szSum m0 ≤ 1048576
  case neg =>
    have HZ0 := Lib.hid (szI_no hz0)
    have HM0 := Lib.hid hM0; have HF0 := Lib.hid hf0
    go_enter Try.func4, Try.ntmps4
    go_wp2_with fail
    refine (szSS_any _ _ m0 (1048576) _ HM0.out HF0.out (by omega)).mono ?_
    rintro e w' ⟨rfl, rfl⟩
    rw [HZ0.out]
    go_wp2_with fail
    go_ret
    exact ⟨rfl, Below.refl _ _⟩
  have HS0 := Lib.hid (small_of (m := m0) (by omega))
  have HT0 : Hid (szSum m0 ≤ 1048576) := Lib.hid (by omega)
  have HZ0 := Lib.hid (szI_yes hz0)
  have HM0 := Lib.hid hM0; have HF0 := Lib.hid hf0
  clear hM0 hf0
  have HR1 := Lib.hid hR1; have HL1 : Hid (l1.length ≤ 1048576) := Lib.hid (by omega)
  clear hR1
  generalize hln1 : l1.length = n1 at *
  have HLN1 := Lib.hid hln1; clear hln1
  go_enter Try.func4, Try.ntmps4
  go_wp2_with fail
  refine (szSS_any _ _ m0 (1048576) _ HM0.out HF0.out (by omega)).mono ?_
  rintro e w' ⟨rfl, rfl⟩
  have hcast0 : ((1048576 : Nat) : Int) - (szSum m0 : Nat) = ((1048576 - szSum m0 : Nat) : Int) := by omega
  rw [HZ0.out, hcast0]
  clear hcast0
  go_wp2_with fail
  refine (toM_own _ _ m0 _ (HM0.out.below (Below.refl w.heap.size w) (Nat.le_refl _)) ((Below.refl w.heap.size w)).size HS0.out).mono ?_
  rintro e w1 ⟨xa0, rfl, ha0, hb⟩
  have Ha0_1 := Lib.hid ha0; clear ha0
  have HB1 := Lib.hid hb
  have HSZ1 := Lib.hid hb.size
  clear hb
  go_wp2_with fail
  refine (toL_own _ _ l1 _ (HR1.out.below HB1.out (Nat.le_refl _)) (HB1.out).size (by first | exact HL1.out | (rw [HLN1.out]; exact HL1.out))).mono ?_
  rintro e w2 ⟨xa1, rfl, ha1, hb⟩
  have Ha1_2 := Lib.hid ha1; clear ha1
  have HB2 := Lib.hid (HB1.out.trans (hb.mono HB1.out.size))
  have HSZ2 := Lib.hid hb.size
  have Ha0_2 := Lib.hid (Ha0_1.out.step hb)
  clear Ha0_1
  clear hb
  go_wp2_with fail
  refine (exs_e _ _ m0 l1 i2 _ (MatB.mono Ha0_2.out.matB Ha0_2.out.2) (RowB.mono Ha1_2.out.rowB Ha1_2.out.2) HF0.out (by have q91 := HL1.out; have e91 := HLN1.out; omega)).mono ?_
  rintro e w3 ⟨rfl, hb⟩
  have HB3 := Lib.hid (HB2.out.trans (hb.mono HB2.out.size))
  have HSZ3 := Lib.hid hb.size
  have Ha0_3 := Lib.hid (Ha0_2.out.step hb)
  clear Ha0_2
  have Ha1_3 := Lib.hid (Ha1_2.out.step hb)
  clear Ha1_2
  clear hb
  go_wp2_with fail
  clear Ha0_3
  clear Ha1_3
  refine (toM_own _ _ m0 _ (HM0.out.below HB3.out (Nat.le_refl _)) (HB3.out).size HS0.out).mono ?_
  rintro e w4 ⟨xx0, rfl, hx0, hb⟩
  have Hx0_4 := Lib.hid hx0; clear hx0
  have HB4 := Lib.hid (HB3.out.trans (hb.mono HB3.out.size))
  have HSZ4 := Lib.hid hb.size
  clear hb
  go_wp2_with fail
  refine (toL_own _ _ l1 _ (HR1.out.below HB4.out (Nat.le_refl _)) (HB4.out).size (by first | exact HL1.out | (rw [HLN1.out]; exact HL1.out))).mono ?_
  rintro e w5 ⟨xx1, rfl, hx1, hb⟩
  have Hx1_5 := Lib.hid hx1; clear hx1
  have HB5 := Lib.hid (HB4.out.trans (hb.mono HB4.out.size))
  have HSZ5 := Lib.hid hb.size
  have Hx0_5 := Lib.hid (Hx0_4.out.step hb)
  clear Hx0_4
  clear hb
  go_wp2_with fail
  refine (exi_e _ _ m0 l1 i2 _ (MatB.mono Hx0_5.out.matB Hx0_5.out.2) (RowB.mono Hx1_5.out.rowB Hx1_5.out.2) Hx1_5.out.1.roomy HF0.out (by have q91 := HL1.out; have e91 := HLN1.out; omega)).mono ?_
  rintro e w6 ⟨rfl, hb⟩
  have HB6 := Lib.hid (HB5.out.trans (hb.mono HB5.out.size))
  have HSZ6 := Lib.hid hb.size
  have Hx0_6 := Lib.hid (Hx0_5.out.step hb)
  clear Hx0_5
  have Hx1_6 := Lib.hid (Hx1_5.out.step hb)
  clear Hx1_5
  clear hb
  go_wp2_with fail
  refine (toM_own _ _ m0 _ (HM0.out.below HB6.out (Nat.le_refl _)) (HB6.out).size HS0.out).mono ?_
  rintro e w7 ⟨xc0, rfl, hc0, hb⟩
  have Hc0_7 := Lib.hid hc0; clear hc0
  have HB7 := Lib.hid (HB6.out.trans (hb.mono HB6.out.size))
  have HSZ7 := Lib.hid hb.size
  have Hx0_7 := Lib.hid (Hx0_6.out.step hb)
  clear Hx0_6
  have Hx1_7 := Lib.hid (Hx1_6.out.step hb)
  clear Hx1_6
  clear hb
  go_wp2_with fail
  refine (eqM_same _ _ _ _ m0 _ Hx0_7.out.matB Hc0_7.out.matB HF0.out).mono ?_
  rintro e w8 ⟨rfl, hq⟩
  have hb : Below w7.heap.size w7 w8 := by obtain ⟨q, hq'⟩ := hq; rw [hq']; exact below_drewN q
  clear hq
  have HB8 := Lib.hid (HB7.out.trans (hb.mono HB7.out.size))
  have HSZ8 := Lib.hid hb.size
  have Hx0_8 := Lib.hid (Hx0_7.out.step hb)
  clear Hx0_7
  have Hx1_8 := Lib.hid (Hx1_7.out.step hb)
  clear Hx1_7
  have Hc0_8 := Lib.hid (Hc0_7.out.step hb)
  clear Hc0_7
  clear hb
  go_wp2_with fail
  clear Hc0_8
  refine (toL_own _ _ l1 _ (HR1.out.below HB8.out (Nat.le_refl _)) (HB8.out).size (by first | exact HL1.out | (rw [HLN1.out]; exact HL1.out))).mono ?_
  rintro e w9 ⟨xc1, rfl, hc1, hb⟩
  have Hc1_9 := Lib.hid hc1; clear hc1
  have HB9 := Lib.hid (HB8.out.trans (hb.mono HB8.out.size))
  have HSZ9 := Lib.hid hb.size
  have Hx0_9 := Lib.hid (Hx0_8.out.step hb)
  clear Hx0_8
  have Hx1_9 := Lib.hid (Hx1_8.out.step hb)
  clear Hx1_8
  clear hb
  go_wp2_with fail
  refine (eqL_same _ _ _ _ l1 _ Hx1_9.out.rowB Hc1_9.out.rowB (by have e9 := HLN1.out; have := HL1.out; unfold maxLen; omega)).mono ?_
  rintro e w10 ⟨rfl, hq⟩
  have hb : Below w9.heap.size w9 w10 := by obtain ⟨q, hq'⟩ := hq; rw [hq']; exact below_drewN q
  clear hq
  have HB10 := Lib.hid (HB9.out.trans (hb.mono HB9.out.size))
  have HSZ10 := Lib.hid hb.size
  have Hx0_10 := Lib.hid (Hx0_9.out.step hb)
  clear Hx0_9
  have Hx1_10 := Lib.hid (Hx1_9.out.step hb)
  clear Hx1_9
  have Hc1_10 := Lib.hid (Hc1_9.out.step hb)
  clear Hc1_9
  clear hb
  go_wp2_with fail
  clear Hc1_10
  go_ret
  exact ⟨rfl, HB10.out⟩

set_option maxRecDepth 100000 in
theorem exil10_lifted (os : Os) (started : os.Started) (H : Type) (enc : TypeId × Value → H) :
    ReturnsInHanded {} Try.checked os 4 .any (Rows.fnExactExchangeIndexSpec.pre6 enc Try.prog Try.f4 Rows.fnExactExchangeIndexRow.domain false) (Rows.fnExactExchangeIndexSpec.post enc Try.prog Try.f4 false true false false) := by
  refine returnsInHanded_of_change (C := Try.checked) seat_own started (by kernel_rfl) Try.func4
    (ChangeSpec.witness6 (enc := enc) (C := Try.checked) false ⟨#[], #[.slice none 0 0, .slice none 0 0, .int .i64 0], []⟩ 8 (by kernel_rfl) (by kernel_rfl) (by kernel_rfl) (by kernel_rfl)) ?_
  intro W base args ds gs before hval0 hW hcnd _
  have hval : ∀ (j : Nat) t v, Try.f4.params[j]? = some t → args[j]? = some v → Value.okWide Try.prog W .any base t v := hval0
  have hW' := hW
  obtain ⟨p, q, hA0, hV, rfl, hfz, hnd⟩ := hW
  have hA : DataW.TrodAll enc Try.prog W 0 (fun _ => true) true Try.f4.params.toList args.toList ds p := hA0
  rw [Try.params4] at hA hval
  obtain ⟨u0, u1, u2, d0, d1, d2, p0, p1, p2, rfl, rfl, rfl, h0, h1, h2⟩ := trodAll_three hA
  obtain ⟨rfl, rfl⟩ := trodVars_none hV
  obtain ⟨m0, hm0, hf0⟩ := mat_open (hval 0 24 u0 rfl rfl) h0
  obtain ⟨l1, hr1, hl1⟩ := row_open (hval 1 25 u1 rfl rfl) h1
  obtain ⟨x2, rfl, rfl, rfl, q2⟩ := open_int Try.underlying3 (hval 2 3 u2 rfl rfl) h2
  clear hA0 hval0
  simp only [List.append_nil] at hW'
  refine (exil10_law u0 m0 u1 l1 x2 W hm0 hf0 hr1 hl1).mono fun e W' ⟨he, hw⟩ => ?_
  subst he
  exact ⟨_, rfl, law_post seat_laidOut (by kernel_rfl) rfl (by kernel_rfl) Try.underlying4 hW' rfl hw⟩

theorem exil10_holds : Rows.FnExactExchangeIndexSaid :=
  OpenClaim.holds_of_wide 4 Try.f4 rfl rfl rfl rfl rfl rfl rfl ⟨rfl, rfl, rfl, rfl, rfl⟩ rfl rfl rfl rfl rfl (by kernel_rfl) Try.func4 (by kernel_rfl)
    (of_decide_eq_true (by kernel_rfl)) (by unfold Func.isWrapper; first | (rw [if_pos (by decide +kernel)]; kernel_rfl) | (rw [if_neg (by decide +kernel)]; exact ⟨rfl, rfl⟩))
    (fun os started H enc _ => exil10_lifted os started H enc)
end Go.Proofs.Ytbmghddmilgngaa
