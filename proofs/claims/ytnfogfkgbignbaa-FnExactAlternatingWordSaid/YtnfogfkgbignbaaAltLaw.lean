/-
  Proved here: for every three ints, the program AlternatingWord returns what the model returns, in memory of its own, and the law answers true. No condition.
-/
import Derived.Test.YtnfogfkgbignbaaWrdB
import Derived.Test.YtnfogfkgbignbaaRowIn
import Derived.Test.YtnfogfkgbignbaaFrm
import Derived.Test.YtnfogfkgbignbaaSeat
namespace Go.Proofs.Ytnfogfkgbignbaa
open Go.ChangeShapes Go.WideShapes Go.ChangeAt Go.ChangeMaps Go.RowKit

set_option maxHeartbeats 2000000 in
set_option maxRecDepth 100000 in
theorem altl_law (i0 : Int) (i1 : Int) (i2 : Int) (w : World) (hi0 : -9223372036854775808 ≤ i0 ∧ i0 ≤ 9223372036854775807) (hi1 : -9223372036854775808 ≤ i1 ∧ i1 ≤ 9223372036854775807) (hi2 : -9223372036854775808 ≤ i2 ∧ i2 ≤ 9223372036854775807) :
    Calls Try.prog 9 #[.int .i64 i0, .int .i64 i1, .int .i64 i2] w fun e w' => e = .returned (.bool true) ∧ Below w.heap.size w w' := by
  go_enter Try.func9, Try.ntmps9
  go_wp2_with fail
  refine (alts_any i0 i1 i2 _ hi2.2 hi2.1).mono ?_
  rintro e w1 ⟨xs, rfl, hs, hb⟩
  have Hs_1 := Lib.hid hs; clear hs
  have HB1 := Lib.hid hb
  have HSZ1 := Lib.hid hb.size
  clear hb
  go_wp2_with fail
  refine (alti_any i0 i1 i2 _ hi2.2 hi2.1).mono ?_
  rintro e w2 ⟨xg, rfl, hg, hb⟩
  have Hg_2 := Lib.hid hg; clear hg
  have HB2 := Lib.hid (HB1.out.trans (hb.mono HB1.out.size))
  have HSZ2 := Lib.hid hb.size
  have Hs_2 := Lib.hid (Hs_1.out.step hb)
  clear Hs_1
  clear hb
  go_wp2_with fail
  refine (eqL_same _ _ _ _ (altL i0 i1 i2) _ Hg_2.out.rowB Hs_2.out.rowB (by have := altL_len i0 i1 i2; unfold maxLen; omega)).mono ?_
  rintro e w3 ⟨rfl, hq⟩
  have hb : Below w2.heap.size w2 w3 := by obtain ⟨q, hq'⟩ := hq; rw [hq']; exact below_drewN q
  clear hq
  have HB3 := Lib.hid (HB2.out.trans (hb.mono HB2.out.size))
  have HSZ3 := Lib.hid hb.size
  have Hs_3 := Lib.hid (Hs_2.out.step hb)
  clear Hs_2
  have Hg_3 := Lib.hid (Hg_2.out.step hb)
  clear Hg_2
  clear hb
  go_wp2_with fail
  refine (markL_own _ _ _ (altL i0 i1 i2) (1) _ Hg_3.out (by have := altL_len i0 i1 i2; omega) (by omega)).mono ?_
  rintro e w4 ⟨rfl, hg, ho⟩
  clear Hg_3
  have Hg_4 := Lib.hid hg; clear hg
  have HB4 := Lib.hid (ho.below (HB1.out.size) HB3.out)
  have HSZ4 : Hid (w3.heap.size ≤ w4.heap.size) := Lib.hid (Nat.le_of_eq ho.size.symm)
  have Hs_4 := Lib.hid (Hs_3.out.only ho (Or.inl (by exact Nat.le_refl _)))
  clear Hs_3
  clear ho
  go_wp2_with fail
  refine (heldL_own _ _ ((altL i0 i1 i2)).length 1 _ Hg_4.out.rowB (by have := altL_len i0 i1 i2; omega) (by omega)).mono ?_
  rintro e w' ⟨rfl, rfl⟩
  go_wp2_with fail
  refine (alti_any i0 i1 i2 _ hi2.2 hi2.1).mono ?_
  rintro e w5 ⟨xh, rfl, hh, hb⟩
  have Hh_5 := Lib.hid hh; clear hh
  have HB5 := Lib.hid (HB4.out.trans (hb.mono HB4.out.size))
  have HSZ5 := Lib.hid hb.size
  have Hs_5 := Lib.hid (Hs_4.out.step hb)
  clear Hs_4
  have Hg_5 := Lib.hid (Hg_4.out.step hb)
  clear Hg_4
  clear hb
  go_wp2_with fail
  refine (eqL_same _ _ _ _ (altL i0 i1 i2) _ Hh_5.out.rowB Hs_5.out.rowB (by have := altL_len i0 i1 i2; unfold maxLen; omega)).mono ?_
  rintro e w6 ⟨rfl, hq⟩
  have hb : Below w5.heap.size w5 w6 := by obtain ⟨q, hq'⟩ := hq; rw [hq']; exact below_drewN q
  clear hq
  have HB6 := Lib.hid (HB5.out.trans (hb.mono HB5.out.size))
  have HSZ6 := Lib.hid hb.size
  have Hs_6 := Lib.hid (Hs_5.out.step hb)
  clear Hs_5
  have Hg_6 := Lib.hid (Hg_5.out.step hb)
  clear Hg_5
  have Hh_6 := Lib.hid (Hh_5.out.step hb)
  clear Hh_5
  clear hb
  go_wp2_with fail
  refine (heldL_own _ _ ((altL i0 i1 i2)).length 1 _ Hg_6.out.rowB (by have := altL_len i0 i1 i2; omega) (by omega)).mono ?_
  rintro e w' ⟨rfl, rfl⟩
  go_wp2_with fail
  go_ret
  exact ⟨rfl, HB6.out⟩

set_option maxRecDepth 100000 in
theorem altl_lifted (os : Os) (started : os.Started) (H : Type) (enc : TypeId × Value → H) :
    ReturnsInHanded {} Try.checked os 9 .any (Rows.fnExactAlternatingWordSpec.pre6 enc Try.prog Try.f9 Rows.fnExactAlternatingWordRow.domain false) (Rows.fnExactAlternatingWordSpec.post enc Try.prog Try.f9 false true false false) := by
  refine returnsInHanded_of_change (C := Try.checked) seat_own started (by kernel_rfl) Try.func9
    (ChangeSpec.witness6 (enc := enc) (C := Try.checked) false ⟨#[], #[.int .i64 0, .int .i64 0, .int .i64 0], []⟩ 8 (by kernel_rfl) (by kernel_rfl) (by kernel_rfl) (by kernel_rfl)) ?_
  intro W base args ds gs before hval0 hW hcnd _
  have hval : ∀ (j : Nat) t v, Try.f9.params[j]? = some t → args[j]? = some v → Value.okWide Try.prog W .any base t v := hval0
  have hW' := hW
  obtain ⟨p, q, hA0, hV, rfl, hfz, hnd⟩ := hW
  have hA : DataW.TrodAll enc Try.prog W 0 (fun _ => true) true Try.f9.params.toList args.toList ds p := hA0
  rw [Try.params9] at hA hval
  obtain ⟨u0, u1, u2, d0, d1, d2, p0, p1, p2, rfl, rfl, rfl, h0, h1, h2⟩ := trodAll_three hA
  obtain ⟨rfl, rfl⟩ := trodVars_none hV
  obtain ⟨x0, rfl, rfl, rfl, q0⟩ := open_int Try.underlying3 (hval 0 3 u0 rfl rfl) h0
  obtain ⟨x1, rfl, rfl, rfl, q1⟩ := open_int Try.underlying3 (hval 1 3 u1 rfl rfl) h1
  obtain ⟨x2, rfl, rfl, rfl, q2⟩ := open_int Try.underlying3 (hval 2 3 u2 rfl rfl) h2
  clear hA0 hval0
  simp only [List.append_nil] at hW'
  refine (altl_law x0 x1 x2 W (int_bnd q0) (int_bnd q1) (int_bnd q2)).mono fun e W' ⟨he, hw⟩ => ?_
  subst he
  exact ⟨_, rfl, law_post seat_laidOut (by kernel_rfl) rfl (by kernel_rfl) Try.underlying4 hW' rfl hw⟩

theorem altl_holds : Rows.FnExactAlternatingWordSaid :=
  OpenClaim.holds_of_wide 9 Try.f9 rfl rfl rfl rfl rfl rfl rfl ⟨rfl, rfl, rfl, rfl, rfl⟩ rfl rfl rfl rfl rfl (by kernel_rfl) Try.func9 (by kernel_rfl)
    (of_decide_eq_true (by kernel_rfl)) (by unfold Func.isWrapper; first | (rw [if_pos (by decide +kernel)]; kernel_rfl) | (rw [if_neg (by decide +kernel)]; exact ⟨rfl, rfl⟩))
    (fun os started H enc _ => altl_lifted os started H enc)
end Go.Proofs.Ytnfogfkgbignbaa
