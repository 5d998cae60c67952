/-
  Proved here: for every string, the program TypeCartan returns what the model returns, in memory of its own, and the law answers true. No condition.
-/
import Derived.Test.YtbieimnbikmbcaaTyS
import Derived.Test.YtbieimnbikmbcaaFrm
import Derived.Test.YtbieimnbikmbcaaSeat
namespace Go.Proofs.Ytbieimnbikmbcaa
open Go.ChangeShapes Go.WideShapes Go.ChangeAt Go.ChangeMaps Go.RowKit

theorem typeM_small (l : List UInt8) : szSum (typeM l) ≤ 1048576 := by
  by_cases h : Fresh shTab l
  · unfold typeM; rw [typeAt_fresh h]; decide
  · have : ∃ p ∈ shTab, p.1 = l := Classical.byContradiction fun hn => h fun p hp e => hn ⟨p, hp, e⟩
    obtain ⟨p, hp, rfl⟩ := this
    obtain ⟨i, hi, rfl⟩ := List.getElem_of_mem hp
    unfold typeM
    rw [(sh_facts i hi).2.2.2.2]
    exact (show ∀ i (h : i < shTab.length), szSum (appC (chainL shTab[i].2.1) shTab[i].2.2) ≤ 1048576 by decide) i hi

set_option maxHeartbeats 2000000 in
set_option maxRecDepth 100000 in
theorem tyl_law (s0 : ByteArray) (w : World) (hs0 : s0.size ≤ maxLen) :
    Calls Try.prog 6 #[.string s0] w fun e w' => e = .returned (.bool true) ∧ Below w.heap.size w w' := by
  have hbad0 := hs0; unfold maxLen at hbad0
  by_cases hg0 : s0.size > 1048576
  · skip
    go_enter Try.func6, Try.ntmps6
    go_wp2_with fail
    go_ret
    exact ⟨rfl, Below.refl _ _⟩
  go_enter Try.func6, Try.ntmps6
  go_wp2_with fail
  refine (tys_any s0 _).mono ?_
  rintro e w1 ⟨xs, rfl, hs, hb⟩
  have Hs_1 := Lib.hid hs; clear hs
  have HB1 := Lib.hid hb
  have HSZ1 := Lib.hid hb.size
  clear hb
  go_wp2_with fail
  refine (tyi_any s0 _).mono ?_
  rintro e w2 ⟨xg, rfl, hg, hb⟩
  have Hg_2 := Lib.hid hg; clear hg
  have HB2 := Lib.hid (HB1.out.trans (hb.mono HB1.out.size))
  have HSZ2 := Lib.hid hb.size
  have Hs_2 := Lib.hid (Hs_1.out.step hb)
  clear Hs_1
  clear hb
  go_wp2_with fail
  refine (eqM_same _ _ _ _ (typeM s0.data.toList) _ Hg_2.out.matB Hs_2.out.matB (fit_of_small (small_of (typeM_small s0.data.toList)))).mono ?_
  rintro e w3 ⟨rfl, hq⟩
  have hb : Below w2.heap.size w2 w3 := by obtain ⟨q, hq'⟩ := hq; rw [hq']; exact below_drewN q
  clear hq
  have HB3 := Lib.hid (HB2.out.trans (hb.mono HB2.out.size))
  have HSZ3 := Lib.hid hb.size
  have Hs_3 := Lib.hid (Hs_2.out.step hb)
  clear Hs_2
  have Hg_3 := Lib.hid (Hg_2.out.step hb)
  clear Hg_2
  clear hb
  go_wp2_with fail
  refine (markM_own _ _ _ (typeM s0.data.toList) (1) _ Hg_3.out (typeM_small s0.data.toList) (by omega)).mono ?_
  rintro e w4 ⟨rfl, hg, ho⟩
  clear Hg_3
  have Hg_4 := Lib.hid hg; clear hg
  have HB4 := Lib.hid (ho.below (HB1.out.size) HB3.out)
  have HSZ4 : Hid (w3.heap.size ≤ w4.heap.size) := Lib.hid (Nat.le_of_eq ho.size.symm)
  have Hs_4 := Lib.hid (Hs_3.out.only ho (Or.inl (by exact Nat.le_refl _)))
  clear Hs_3
  clear ho
  go_wp2_with fail
  refine (heldM_own _ _ (typeM s0.data.toList) 1 _ Hg_4.out.matB (typeM_small s0.data.toList) (by omega)).mono ?_
  rintro e w' ⟨rfl, rfl⟩
  go_wp2_with fail
  refine (tyi_any s0 _).mono ?_
  rintro e w5 ⟨xh, rfl, hh, hb⟩
  have Hh_5 := Lib.hid hh; clear hh
  have HB5 := Lib.hid (HB4.out.trans (hb.mono HB4.out.size))
  have HSZ5 := Lib.hid hb.size
  have Hs_5 := Lib.hid (Hs_4.out.step hb)
  clear Hs_4
  have Hg_5 := Lib.hid (Hg_4.out.step hb)
  clear Hg_4
  clear hb
  go_wp2_with fail
  refine (eqM_same _ _ _ _ (typeM s0.data.toList) _ Hh_5.out.matB Hs_5.out.matB (fit_of_small (small_of (typeM_small s0.data.toList)))).mono ?_
  rintro e w6 ⟨rfl, hq⟩
  have hb : Below w5.heap.size w5 w6 := by obtain ⟨q, hq'⟩ := hq; rw [hq']; exact below_drewN q
  clear hq
  have HB6 := Lib.hid (HB5.out.trans (hb.mono HB5.out.size))
  have HSZ6 := Lib.hid hb.size
  have Hs_6 := Lib.hid (Hs_5.out.step hb)
  clear Hs_5
  have Hg_6 := Lib.hid (Hg_5.out.step hb)
  clear Hg_5
  have Hh_6 := Lib.hid (Hh_5.out.step hb)
  clear Hh_5
  clear hb
  go_wp2_with fail
  refine (heldM_own _ _ (typeM s0.data.toList) 1 _ Hg_6.out.matB (typeM_small s0.data.toList) (by omega)).mono ?_
  rintro e w' ⟨rfl, rfl⟩
  go_wp2_with fail
  go_ret
  exact ⟨rfl, HB6.out⟩

set_option maxRecDepth 100000 in
theorem tyl_lifted (os : Os) (started : os.Started) (H : Type) (enc : TypeId × Value → H) :
    ReturnsInHanded {} Try.checked os 6 .any (Rows.fnExactTypeCartanSpec.pre6 enc Try.prog Try.f6 Rows.fnExactTypeCartanRow.domain false) (Rows.fnExactTypeCartanSpec.post enc Try.prog Try.f6 false true false false) := by
  refine returnsInHanded_of_change (C := Try.checked) seat_own started (by kernel_rfl) Try.func6
    (ChangeSpec.witness6 (enc := enc) (C := Try.checked) false ⟨#[], #[.string (ByteArray.mk #[])], []⟩ 8 (by kernel_rfl) (by kernel_rfl) (by kernel_rfl) (by kernel_rfl)) ?_
  intro W base args ds gs before hval0 hW hcnd _
  have hval : ∀ (j : Nat) t v, Try.f6.params[j]? = some t → args[j]? = some v → Value.okWide Try.prog W .any base t v := hval0
  have hW' := hW
  obtain ⟨p, q, hA0, hV, rfl, hfz, hnd⟩ := hW
  have hA : DataW.TrodAll enc Try.prog W 0 (fun _ => true) true Try.f6.params.toList args.toList ds p := hA0
  rw [Try.params6] at hA hval
  obtain ⟨u0, d0, rfl, rfl, h0⟩ := trodAll_one hA
  obtain ⟨rfl, rfl⟩ := trodVars_none hV
  obtain ⟨x0, rfl, rfl, rfl, q0⟩ := open_string Try.underlying9 (hval 0 9 u0 rfl rfl) h0
  clear hA0 hval0
  simp only [List.append_nil] at hW'
  refine (tyl_law x0 W q0).mono fun e W' ⟨he, hw⟩ => ?_
  subst he
  exact ⟨_, rfl, law_post seat_laidOut (by kernel_rfl) rfl (by kernel_rfl) Try.underlying4 hW' rfl hw⟩

theorem tyl_holds : Rows.FnExactTypeCartanSaid :=
  OpenClaim.holds_of_wide 6 Try.f6 rfl rfl rfl rfl rfl rfl rfl ⟨rfl, rfl, rfl, rfl, rfl⟩ rfl rfl rfl rfl rfl (by kernel_rfl) Try.func6 (by kernel_rfl)
    (of_decide_eq_true (by kernel_rfl)) (by unfold Func.isWrapper; first | (rw [if_pos (by decide +kernel)]; kernel_rfl) | (rw [if_neg (by decide +kernel)]; exact ⟨rfl, rfl⟩))
    (fun os started H enc _ => tyl_lifted os started H enc)
end Go.Proofs.Ytbieimnbikmbcaa
