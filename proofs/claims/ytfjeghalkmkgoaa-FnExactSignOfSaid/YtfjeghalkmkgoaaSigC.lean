/-
  Proved here: for every list of ints, the program SignOf returns what the model returns, and the law answers true. No condition.
-/
import Derived.Test.YtfjeghalkmkgoaaLcZ
namespace Go.Proofs.Ytfjeghalkmkgoaa
open Go.ChangeShapes Go.WideShapes Go.ChangeAt Go.ChangeMaps Go.RowKit

set_option maxHeartbeats 2000000 in
set_option maxRecDepth 100000 in
theorem sigl8_law (v0 : Value) (l0 : List Int) (w : World) (hR0 : RowB w.heap.size w v0 l0) (hl0 : l0.length ≤ maxLen) :
    Calls Try.prog 9 #[v0] w fun e w' => e = .returned (.bool true) ∧ Below w.heap.size w w' := by
  obtain ⟨ra0, rcap0, rfl⟩ := hR0.slice
  have hbad0 := hl0; unfold maxLen at hbad0
  by_cases hg0 : l0.length > 1048576
  · clear hR0
    generalize l0.length = n0 at *
    go_enter Try.func9, Try.ntmps9
    go_wp2_with fail
    go_ret
    exact ⟨rfl, Below.refl _ _⟩
  have HR0 := Lib.hid hR0; have HL0 : Hid (l0.length ≤ 1048576) := Lib.hid (by omega)
  clear hR0
  generalize hln0 : l0.length = n0 at *
  have HLN0 := Lib.hid hln0; clear hln0
  go_enter Try.func9, Try.ntmps9
  go_wp2_with fail
  refine (toL_own _ _ l0 _ (HR0.out.below (Below.refl w.heap.size w) (Nat.le_refl _)) ((Below.refl w.heap.size w)).size (by first | exact HL0.out | (rw [HLN0.out]; exact HL0.out))).mono ?_
  rintro e w1 ⟨xa0, rfl, ha0, hb⟩
  have Ha0_1 := Lib.hid ha0; clear ha0
  have HB1 := Lib.hid hb
  have HSZ1 := Lib.hid hb.size
  clear hb
  go_wp2_with fail
  refine (sig8_any _ _ l0 _ Ha0_1.out.rowB (by have q90 := HL0.out; have e90 := HLN0.out; omega)).mono ?_
  rintro e w2 ⟨rfl, hb⟩
  have HB2 := Lib.hid (HB1.out.trans (hb.mono HB1.out.size))
  have HSZ2 := Lib.hid hb.size
  have Ha0_2 := Lib.hid (Ha0_1.out.step hb)
  clear Ha0_1
  clear hb
  go_wp2_with fail
  clear Ha0_2
  refine (toL_own _ _ l0 _ (HR0.out.below HB2.out (Nat.le_refl _)) (HB2.out).size (by first | exact HL0.out | (rw [HLN0.out]; exact HL0.out))).mono ?_
  rintro e w3 ⟨xx0, rfl, hx0, hb⟩
  have Hx0_3 := Lib.hid hx0; clear hx0
  have HB3 := Lib.hid (HB2.out.trans (hb.mono HB2.out.size))
  have HSZ3 := Lib.hid hb.size
  clear hb
  go_wp2_with fail
  refine (sig8i_any _ _ l0 _ Hx0_3.out.rowB (by have q90 := HL0.out; have e90 := HLN0.out; omega)).mono ?_
  rintro e w4 ⟨rfl, hb⟩
  have HB4 := Lib.hid (HB3.out.trans (hb.mono HB3.out.size))
  have HSZ4 := Lib.hid hb.size
  have Hx0_4 := Lib.hid (Hx0_3.out.step hb)
  clear Hx0_3
  clear hb
  go_wp2_with fail
  refine (toL_own _ _ l0 _ (HR0.out.below HB4.out (Nat.le_refl _)) (HB4.out).size (by first | exact HL0.out | (rw [HLN0.out]; exact HL0.out))).mono ?_
  rintro e w5 ⟨xc0, rfl, hc0, hb⟩
  have Hc0_5 := Lib.hid hc0; clear hc0
  have HB5 := Lib.hid (HB4.out.trans (hb.mono HB4.out.size))
  have HSZ5 := Lib.hid hb.size
  have Hx0_5 := Lib.hid (Hx0_4.out.step hb)
  clear Hx0_4
  clear hb
  go_wp2_with fail
  refine (eqL_same _ _ _ _ l0 _ Hx0_5.out.rowB Hc0_5.out.rowB (by have e9 := HLN0.out; have := HL0.out; unfold maxLen; omega)).mono ?_
  rintro e w6 ⟨rfl, hq⟩
  have hb : Below w5.heap.size w5 w6 := by obtain ⟨q, hq'⟩ := hq; rw [hq']; exact below_drewN q
  clear hq
  have HB6 := Lib.hid (HB5.out.trans (hb.mono HB5.out.size))
  have HSZ6 := Lib.hid hb.size
  have Hx0_6 := Lib.hid (Hx0_5.out.step hb)
  clear Hx0_5
  have Hc0_6 := Lib.hid (Hc0_5.out.step hb)
  clear Hc0_5
  clear hb
  go_wp2_with fail
  clear Hc0_6
  go_ret
  exact ⟨rfl, HB6.out⟩

set_option maxRecDepth 100000 in
theorem sigl8_lifted (os : Os) (started : os.Started) (H : Type) (enc : TypeId × Value → H) :
    ReturnsInHanded {} Try.checked os 9 .any (Rows.fnExactSignOfSpec.pre6 enc Try.prog Try.f9 Rows.fnExactSignOfRow.domain false) (Rows.fnExactSignOfSpec.post enc Try.prog Try.f9 false true false false) := by
  refine returnsInHanded_of_change (C := Try.checked) seat_own started (by kernel_rfl) Try.func9
    (ChangeSpec.witness6 (enc := enc) (C := Try.checked) false ⟨#[], #[.slice none 0 0], []⟩ 8 (by kernel_rfl) (by kernel_rfl) (by kernel_rfl) (by kernel_rfl)) ?_
  intro W base args ds gs before hval0 hW hcnd _
  have hval : ∀ (j : Nat) t v, Try.f9.params[j]? = some t → args[j]? = some v → Value.okWide Try.prog W .any base t v := hval0
  have hW' := hW
  obtain ⟨p, q, hA0, hV, rfl, hfz, hnd⟩ := hW
  have hA : DataW.TrodAll enc Try.prog W 0 (fun _ => true) true Try.f9.params.toList args.toList ds p := hA0
  rw [Try.params9] at hA hval
  obtain ⟨u0, d0, rfl, rfl, h0⟩ := trodAll_one hA
  obtain ⟨rfl, rfl⟩ := trodVars_none hV
  obtain ⟨l0, hr0, hl0⟩ := row_open (hval 0 23 u0 rfl rfl) h0
  clear hA0 hval0
  simp only [List.append_nil] at hW'
  refine (sigl8_law u0 l0 W hr0 hl0).mono fun e W' ⟨he, hw⟩ => ?_
  subst he
  exact ⟨_, rfl, law_post seat_laidOut (by kernel_rfl) rfl (by kernel_rfl) Try.underlying4 hW' rfl hw⟩

theorem sigl8_holds : Rows.FnExactSignOfSaid :=
  OpenClaim.holds_of_wide 9 Try.f9 rfl rfl rfl rfl rfl rfl rfl ⟨rfl, rfl, rfl, rfl, rfl⟩ rfl rfl rfl rfl rfl (by kernel_rfl) Try.func9 (by kernel_rfl)
    (of_decide_eq_true (by kernel_rfl)) (by unfold Func.isWrapper; first | (rw [if_pos (by decide +kernel)]; kernel_rfl) | (rw [if_neg (by decide +kernel)]; exact ⟨rfl, rfl⟩))
    (fun os started H enc _ => sigl8_lifted os started H enc)
end Go.Proofs.Ytfjeghalkmkgoaa
