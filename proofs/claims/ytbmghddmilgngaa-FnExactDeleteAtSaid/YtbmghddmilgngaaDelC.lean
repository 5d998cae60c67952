/-
  Proved here: for every list of ints and every int, the program DeleteAt returns what the model returns, in memory of its own, and the law answers true. No condition.
-/
import Derived.Test.YtbmghddmilgngaaLcZ
namespace Go.Proofs.Ytbmghddmilgngaa
open Go.ChangeShapes Go.WideShapes Go.ChangeAt Go.ChangeMaps Go.RowKit

set_option maxHeartbeats 2000000 in
set_option maxRecDepth 100000 in
theorem dell10_law (v0 : Value) (l0 : List Int) (i1 : Int) (w : World) (hR0 : RowB w.heap.size w v0 l0) (hl0 : l0.length ≤ maxLen) :
    Calls Try.prog 5 #[v0, .int .i64 i1] w fun e w' => e = .returned (.bool true) ∧ Below w.heap.size w w' := by
  obtain ⟨ra0, rcap0, rfl⟩ := hR0.slice
  have hbad0 := hl0; unfold maxLen at hbad0
  by_cases hg0 : l0.length > 1048576
  · clear hR0
    generalize l0.length = n0 at *
    go_enter Try.func5, Try.ntmps5
    go_wp2_with fail
    go_ret
    exact ⟨rfl, Below.refl _ _⟩
  have HR0 := Lib.hid hR0; have HL0 : Hid (l0.length ≤ 1048576) := Lib.hid (by omega)
  clear hR0
  generalize hln0 : l0.length = n0 at *
  have HLN0 := Lib.hid hln0; clear hln0
  go_enter Try.func5, Try.ntmps5
  go_wp2_with fail
  refine (toL_own _ _ l0 _ (HR0.out.below (Below.refl w.heap.size w) (Nat.le_refl _)) ((Below.refl w.heap.size w)).size (by first | exact HL0.out | (rw [HLN0.out]; exact HL0.out))).mono ?_
  rintro e w1 ⟨xa0, rfl, ha0, hb⟩
  have Ha0_1 := Lib.hid ha0; clear ha0
  have HB1 := Lib.hid hb
  have HSZ1 := Lib.hid hb.size
  clear hb
  go_wp2_with fail
  refine (dels_e _ l0 i1 _ (RowB.mono Ha0_1.out.rowB Ha0_1.out.2) (by have q90 := HL0.out; have e90 := HLN0.out; omega)).mono ?_
  rintro e w2 ⟨xs, rfl, hs, hb⟩
  have Hs_2 := Lib.hid hs; clear hs
  have HB2 := Lib.hid (HB1.out.trans (hb.mono HB1.out.size))
  have HSZ2 := Lib.hid hb.size
  have Ha0_2 := Lib.hid (Ha0_1.out.step hb)
  clear Ha0_1
  clear hb
  go_wp2_with fail
  clear Ha0_2
  refine (toL_own _ _ l0 _ (HR0.out.below HB2.out (Nat.le_refl _)) (HB2.out).size (by first | exact HL0.out | (rw [HLN0.out]; exact HL0.out))).mono ?_
  rintro e w3 ⟨xx0, rfl, hx0, hb⟩
  have Hx0_3 := Lib.hid hx0; clear hx0
  have HB3 := Lib.hid (HB2.out.trans (hb.mono HB2.out.size))
  have HSZ3 := Lib.hid hb.size
  have Hs_3 := Lib.hid (Hs_2.out.step hb)
  clear Hs_2
  clear hb
  go_wp2_with fail
  refine (deli_e _ l0 i1 _ (RowB.mono Hx0_3.out.rowB Hx0_3.out.2) Hx0_3.out.1.roomy (by have q90 := HL0.out; have e90 := HLN0.out; omega)).mono ?_
  rintro e w4 ⟨xg, rfl, hg, hb⟩
  have Hg_4 := Lib.hid hg; clear hg
  have HB4 := Lib.hid (HB3.out.trans (hb.mono HB3.out.size))
  have HSZ4 := Lib.hid hb.size
  have Hs_4 := Lib.hid (Hs_3.out.step hb)
  clear Hs_3
  have Hx0_4 := Lib.hid (Hx0_3.out.step hb)
  clear Hx0_3
  clear hb
  go_wp2_with fail
  refine (eqL_same _ _ _ _ (delL l0 i1) _ Hg_4.out.rowB Hs_4.out.rowB (by have q91 := HL0.out; have e91 := HLN0.out; have := delL_le l0 i1; unfold maxLen; omega)).mono ?_
  rintro e w5 ⟨rfl, hq⟩
  have hb : Below w4.heap.size w4 w5 := by obtain ⟨q, hq'⟩ := hq; rw [hq']; exact below_drewN q
  clear hq
  have HB5 := Lib.hid (HB4.out.trans (hb.mono HB4.out.size))
  have HSZ5 := Lib.hid hb.size
  have Hs_5 := Lib.hid (Hs_4.out.step hb)
  clear Hs_4
  have Hx0_5 := Lib.hid (Hx0_4.out.step hb)
  clear Hx0_4
  have Hg_5 := Lib.hid (Hg_4.out.step hb)
  clear Hg_4
  clear hb
  go_wp2_with fail
  refine (toL_own _ _ l0 _ (HR0.out.below HB5.out (Nat.le_refl _)) (HB5.out).size (by first | exact HL0.out | (rw [HLN0.out]; exact HL0.out))).mono ?_
  rintro e w6 ⟨xc0, rfl, hc0, hb⟩
  have Hc0_6 := Lib.hid hc0; clear hc0
  have HB6 := Lib.hid (HB5.out.trans (hb.mono HB5.out.size))
  have HSZ6 := Lib.hid hb.size
  have Hs_6 := Lib.hid (Hs_5.out.step hb)
  clear Hs_5
  have Hx0_6 := Lib.hid (Hx0_5.out.step hb)
  clear Hx0_5
  have Hg_6 := Lib.hid (Hg_5.out.step hb)
  clear Hg_5
  clear hb
  go_wp2_with fail
  refine (eqL_same _ _ _ _ l0 _ Hx0_6.out.rowB Hc0_6.out.rowB (by have e9 := HLN0.out; have := HL0.out; unfold maxLen; omega)).mono ?_
  rintro e w7 ⟨rfl, hq⟩
  have hb : Below w6.heap.size w6 w7 := by obtain ⟨q, hq'⟩ := hq; rw [hq']; exact below_drewN q
  clear hq
  have HB7 := Lib.hid (HB6.out.trans (hb.mono HB6.out.size))
  have HSZ7 := Lib.hid hb.size
  have Hs_7 := Lib.hid (Hs_6.out.step hb)
  clear Hs_6
  have Hx0_7 := Lib.hid (Hx0_6.out.step hb)
  clear Hx0_6
  have Hg_7 := Lib.hid (Hg_6.out.step hb)
  clear Hg_6
  have Hc0_7 := Lib.hid (Hc0_6.out.step hb)
  clear Hc0_6
  clear hb
  go_wp2_with fail
  clear Hc0_7
  refine (markL_own _ _ _ l0 (1) _ Hx0_7.out (by have e9 := HLN0.out; have q9 := HL0.out; omega) (by have q90 := HL0.out; have e90 := HLN0.out; omega)).mono ?_
  rintro e w8 ⟨rfl, hx0, ho⟩
  clear Hx0_7
  have Hx0_8 := Lib.hid hx0; clear hx0
  have HB8 := Lib.hid (ho.below (HB2.out.size) HB7.out)
  have HSZ8 : Hid (w7.heap.size ≤ w8.heap.size) := Lib.hid (Nat.le_of_eq ho.size.symm)
  have Hs_8 := Lib.hid (Hs_7.out.only ho (Or.inl (by exact Nat.le_refl _)))
  clear Hs_7
  have Hg_8 := Lib.hid (Hg_7.out.only ho (Or.inr (by exact Nat.le_refl _)))
  clear Hg_7
  clear ho
  go_wp2_with fail
  refine (eqL_same _ _ _ _ (delL l0 i1) _ Hg_8.out.rowB Hs_8.out.rowB (by have q91 := HL0.out; have e91 := HLN0.out; have := delL_le l0 i1; unfold maxLen; omega)).mono ?_
  rintro e w9 ⟨rfl, hq⟩
  have hb : Below w8.heap.size w8 w9 := by obtain ⟨q, hq'⟩ := hq; rw [hq']; exact below_drewN q
  clear hq
  have HB9 := Lib.hid (HB8.out.trans (hb.mono HB8.out.size))
  have HSZ9 := Lib.hid hb.size
  have Hs_9 := Lib.hid (Hs_8.out.step hb)
  clear Hs_8
  have Hx0_9 := Lib.hid (Hx0_8.out.step hb)
  clear Hx0_8
  have Hg_9 := Lib.hid (Hg_8.out.step hb)
  clear Hg_8
  clear hb
  go_wp2_with fail
  clear Hx0_9
  refine (markL_own _ _ _ (delL l0 i1) (1) _ Hg_9.out (by have q91 := HL0.out; have e91 := HLN0.out; have := delL_le l0 i1; omega) (by have q90 := HL0.out; have e90 := HLN0.out; omega)).mono ?_
  rintro e w10 ⟨rfl, hg, ho⟩
  clear Hg_9
  have Hg_10 := Lib.hid hg; clear hg
  have HB10 := Lib.hid (ho.below (HB3.out.size) HB9.out)
  have HSZ10 : Hid (w9.heap.size ≤ w10.heap.size) := Lib.hid (Nat.le_of_eq ho.size.symm)
  have Hs_10 := Lib.hid (Hs_9.out.only ho (Or.inl (by have q3 := HSZ3.out; omega)))
  clear Hs_9
  clear ho
  go_wp2_with fail
  refine (heldL_own _ _ ((delL l0 i1)).length 1 _ Hg_10.out.rowB (by have q91 := HL0.out; have e91 := HLN0.out; have := delL_le l0 i1; omega) (by omega)).mono ?_
  rintro e w' ⟨rfl, rfl⟩
  go_wp2_with fail
  refine (toL_own _ _ l0 _ (HR0.out.below HB10.out (Nat.le_refl _)) (HB10.out).size (by first | exact HL0.out | (rw [HLN0.out]; exact HL0.out))).mono ?_
  rintro e w11 ⟨xy0, rfl, hy0, hb⟩
  have Hy0_11 := Lib.hid hy0; clear hy0
  have HB11 := Lib.hid (HB10.out.trans (hb.mono HB10.out.size))
  have HSZ11 := Lib.hid hb.size
  have Hs_11 := Lib.hid (Hs_10.out.step hb)
  clear Hs_10
  have Hg_11 := Lib.hid (Hg_10.out.step hb)
  clear Hg_10
  clear hb
  go_wp2_with fail
  refine (deli_e _ l0 i1 _ (RowB.mono Hy0_11.out.rowB Hy0_11.out.2) Hy0_11.out.1.roomy (by have q90 := HL0.out; have e90 := HLN0.out; omega)).mono ?_
  rintro e w12 ⟨xh, rfl, hh, hb⟩
  have Hh_12 := Lib.hid hh; clear hh
  have HB12 := Lib.hid (HB11.out.trans (hb.mono HB11.out.size))
  have HSZ12 := Lib.hid hb.size
  have Hs_12 := Lib.hid (Hs_11.out.step hb)
  clear Hs_11
  have Hg_12 := Lib.hid (Hg_11.out.step hb)
  clear Hg_11
  have Hy0_12 := Lib.hid (Hy0_11.out.step hb)
  clear Hy0_11
  clear hb
  go_wp2_with fail
  clear Hy0_12
  refine (eqL_same _ _ _ _ (delL l0 i1) _ Hh_12.out.rowB Hs_12.out.rowB (by have q91 := HL0.out; have e91 := HLN0.out; have := delL_le l0 i1; unfold maxLen; omega)).mono ?_
  rintro e w13 ⟨rfl, hq⟩
  have hb : Below w12.heap.size w12 w13 := by obtain ⟨q, hq'⟩ := hq; rw [hq']; exact below_drewN q
  clear hq
  have HB13 := Lib.hid (HB12.out.trans (hb.mono HB12.out.size))
  have HSZ13 := Lib.hid hb.size
  have Hs_13 := Lib.hid (Hs_12.out.step hb)
  clear Hs_12
  have Hg_13 := Lib.hid (Hg_12.out.step hb)
  clear Hg_12
  have Hh_13 := Lib.hid (Hh_12.out.step hb)
  clear Hh_12
  clear hb
  go_wp2_with fail
  refine (heldL_own _ _ ((delL l0 i1)).length 1 _ Hg_13.out.rowB (by have q91 := HL0.out; have e91 := HLN0.out; have := delL_le l0 i1; omega) (by omega)).mono ?_
  rintro e w' ⟨rfl, rfl⟩
  go_wp2_with fail
  go_ret
  exact ⟨rfl, HB13.out⟩

set_option maxRecDepth 100000 in
theorem dell10_lifted (os : Os) (started : os.Started) (H : Type) (enc : TypeId × Value → H) :
    ReturnsInHanded {} Try.checked os 5 .any (Rows.fnExactDeleteAtSpec.pre6 enc Try.prog Try.f5 Rows.fnExactDeleteAtRow.domain false) (Rows.fnExactDeleteAtSpec.post enc Try.prog Try.f5 false true false false) := by
  refine returnsInHanded_of_change (C := Try.checked) seat_own started (by kernel_rfl) Try.func5
    (ChangeSpec.witness6 (enc := enc) (C := Try.checked) false ⟨#[], #[.slice none 0 0, .int .i64 0], []⟩ 8 (by kernel_rfl) (by kernel_rfl) (by kernel_rfl) (by kernel_rfl)) ?_
  intro W base args ds gs before hval0 hW hcnd _
  have hval : ∀ (j : Nat) t v, Try.f5.params[j]? = some t → args[j]? = some v → Value.okWide Try.prog W .any base t v := hval0
  have hW' := hW
  obtain ⟨p, q, hA0, hV, rfl, hfz, hnd⟩ := hW
  have hA : DataW.TrodAll enc Try.prog W 0 (fun _ => true) true Try.f5.params.toList args.toList ds p := hA0
  rw [Try.params5] at hA hval
  obtain ⟨u0, u1, d0, d1, p0, p1, rfl, rfl, rfl, h0, h1⟩ := trodAll_two hA
  obtain ⟨rfl, rfl⟩ := trodVars_none hV
  obtain ⟨l0, hr0, hl0⟩ := row_open (hval 0 25 u0 rfl rfl) h0
  obtain ⟨x1, rfl, rfl, rfl, q1⟩ := open_int Try.underlying3 (hval 1 3 u1 rfl rfl) h1
  clear hA0 hval0
  simp only [List.append_nil] at hW'
  refine (dell10_law u0 l0 x1 W hr0 hl0).mono fun e W' ⟨he, hw⟩ => ?_
  subst he
  exact ⟨_, rfl, law_post seat_laidOut (by kernel_rfl) rfl (by kernel_rfl) Try.underlying4 hW' rfl hw⟩

theorem dell10_holds : Rows.FnExactDeleteAtSaid :=
  OpenClaim.holds_of_wide 5 Try.f5 rfl rfl rfl rfl rfl rfl rfl ⟨rfl, rfl, rfl, rfl, rfl⟩ rfl rfl rfl rfl rfl (by kernel_rfl) Try.func5 (by kernel_rfl)
    (of_decide_eq_true (by kernel_rfl)) (by unfold Func.isWrapper; first | (rw [if_pos (by decide +kernel)]; kernel_rfl) | (rw [if_neg (by decide +kernel)]; exact ⟨rfl, rfl⟩))
    (fun os started H enc _ => dell10_lifted os started H enc)
end Go.Proofs.Ytbmghddmilgngaa
