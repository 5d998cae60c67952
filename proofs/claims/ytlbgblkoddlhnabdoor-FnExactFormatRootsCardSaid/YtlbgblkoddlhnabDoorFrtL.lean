/-
  Proved here: for every list of lists of ints, the program FormatRoots returns what the model returns, and the law answers true: under the tables of internal/strconv and math/bits as the program text lays them (the card ties them).
-/
import Derived.Test.YtlbgblkoddlhnabDoorRfQ
import Derived.Test.YtlbgblkoddlhnabDoorLaidC
import Derived.Test.YtlbgblkoddlhnabDoorFrm
import Derived.Test.YtlbgblkoddlhnabDoorSeat
import Derived.Test.YtlbgblkoddlhnabDoorTie
import Derived.Test.YtlbgblkoddlhnabDoorCards
import Derived.SevenTiedAt
namespace Go.Proofs.YtlbgblkoddlhnabDoor
open Go.ChangeShapes Go.WideShapes Go.ChangeAt Go.ChangeMaps Go.RowKit

set_option maxHeartbeats 2000000 in
set_option maxRecDepth 100000 in
theorem frtl_law (v0 : Value) (m0 : List (List Int)) (w : World) (hM0 : MatB w.heap.size w v0 m0) (hf0 : RowsFit m0) (hg0 : FitsM m0) (htab : Lib.TabIs Tryd.prog w "internal/strconv.uint64pow10" .u64 Lib.pow10Tab) :
    Calls Tryd.prog 3 #[v0] w fun e w' => e = .returned (.bool true) ∧ Below w.heap.size w w' := by
  have HT := Lib.hid htab; clear htab
  by_cases hz0 : szSum m0 ≤ 1048576
  case neg =>
    have HZ0 := Lib.hid (szI_no hz0)
    have HM0 := Lib.hid hM0; have HF0 := Lib.hid hf0
    go_enter Tryd.func3, Tryd.ntmps3
    go_wp2_with fail
    refine (szSS_any _ _ m0 (1048576) _ HM0.out HF0.out (by omega)).mono ?_
    rintro e w' ⟨rfl, rfl⟩
    rw [HZ0.out]
    go_wp2_with fail
    go_ret
    exact ⟨rfl, Below.refl _ _⟩
  have HS0 := Lib.hid (small_of (m := m0) (by omega))
  have HT0 : Hid (szSum m0 ≤ 1048576) := Lib.hid (by omega)
  have HZ0 := Lib.hid (szI_yes hz0)
  have HM0 := Lib.hid hM0; have HF0 := Lib.hid hf0
  clear hM0 hf0
  have HGI0 := Lib.hid hg0; clear hg0
  go_enter Tryd.func3, Tryd.ntmps3
  go_wp2_with fail
  refine (szSS_any _ _ m0 (1048576) _ HM0.out HF0.out (by omega)).mono ?_
  rintro e w' ⟨rfl, rfl⟩
  have hcast0 : ((1048576 : Nat) : Int) - (szSum m0 : Nat) = ((1048576 - szSum m0 : Nat) : Int) := by omega
  rw [HZ0.out, hcast0]
  clear hcast0
  go_wp2_with fail
  refine (toM_own _ _ m0 _ (HM0.out.below (Below.refl w.heap.size w) (Nat.le_refl _)) ((Below.refl w.heap.size w)).size HS0.out).mono ?_
  rintro e w1 ⟨xa0, rfl, ha0, hb⟩
  have Ha0_1 := Lib.hid ha0; clear ha0
  have HB1 := Lib.hid hb
  have HSZ1 := Lib.hid hb.size
  clear hb
  go_wp2_with fail
  refine (fmrs_any _ _ m0 _ Ha0_1.out.matB Ha0_1.out.2 HT0.out HGI0.out).mono ?_
  rintro e w2 ⟨rfl, hb⟩
  have HB2 := Lib.hid (HB1.out.trans (hb.mono HB1.out.size))
  have HSZ2 := Lib.hid hb.size
  have Ha0_2 := Lib.hid (Ha0_1.out.step hb)
  clear Ha0_1
  clear hb
  go_wp2_with fail
  clear Ha0_2
  refine (toM_own _ _ m0 _ (HM0.out.below HB2.out (Nat.le_refl _)) (HB2.out).size HS0.out).mono ?_
  rintro e w3 ⟨xx0, rfl, hx0, hb⟩
  have Hx0_3 := Lib.hid hx0; clear hx0
  have HB3 := Lib.hid (HB2.out.trans (hb.mono HB2.out.size))
  have HSZ3 := Lib.hid hb.size
  clear hb
  go_wp2_with fail
  refine (fmri_any _ _ m0 _ Hx0_3.out.matB Hx0_3.out.2 HT0.out HGI0.out (tab_below HT.out HB3.out)).mono ?_
  rintro e w4 ⟨rfl, hb⟩
  have HB4 := Lib.hid (HB3.out.trans (hb.mono HB3.out.size))
  have HSZ4 := Lib.hid hb.size
  have Hx0_4 := Lib.hid (Hx0_3.out.step hb)
  clear Hx0_3
  clear hb
  go_wp2_with fail
  refine (toM_own _ _ m0 _ (HM0.out.below HB4.out (Nat.le_refl _)) (HB4.out).size HS0.out).mono ?_
  rintro e w5 ⟨xc0, rfl, hc0, hb⟩
  have Hc0_5 := Lib.hid hc0; clear hc0
  have HB5 := Lib.hid (HB4.out.trans (hb.mono HB4.out.size))
  have HSZ5 := Lib.hid hb.size
  have Hx0_5 := Lib.hid (Hx0_4.out.step hb)
  clear Hx0_4
  clear hb
  go_wp2_with fail
  refine (eqM_same _ _ _ _ m0 _ Hx0_5.out.matB Hc0_5.out.matB HF0.out).mono ?_
  rintro e w6 ⟨rfl, hq⟩
  have hb : Below w5.heap.size w5 w6 := by obtain ⟨q, hq'⟩ := hq; rw [hq']; exact below_drewN q
  clear hq
  have HB6 := Lib.hid (HB5.out.trans (hb.mono HB5.out.size))
  have HSZ6 := Lib.hid hb.size
  have Hx0_6 := Lib.hid (Hx0_5.out.step hb)
  clear Hx0_5
  have Hc0_6 := Lib.hid (Hc0_5.out.step hb)
  clear Hc0_5
  clear hb
  go_wp2_with fail
  clear Hc0_6
  go_ret
  exact ⟨rfl, HB6.out⟩

set_option maxRecDepth 100000 in
theorem frtl_lifted (os : Os) (started : os.Started) (H : Type) (enc : TypeId × Value → H) :
    ReturnsInHanded {} Tryd.checked os 3 .any (fun w args => (Rows.fnExactFormatRootsSpec.pre enc Tryd.prog Tryd.f3 [] false w args ∧ laidMetH Tryd.prog laidFormatRoots w) ∧ sizedMet enc Tryd.prog Tryd.f3 (OpenSpec.ofChange Rows.fnExactFormatRootsSpec) false w args)
      (Rows.fnExactFormatRootsSpec.post enc Tryd.prog Tryd.f3 false true false false) := by
  refine returnsInHanded_of_change_and (C := Tryd.checked) (X := fun w _ => laidMetH Tryd.prog laidFormatRoots w) (fun _ _ _ hh h => h.of_heap hh) seat_own started (by kernel_rfl) Tryd.func3
    (ChangeSpec.witness_shaped (enc := enc) (C := Tryd.checked) (os := os) (X := fun w _ => laidMetH Tryd.prog laidFormatRoots w) false (World.doorLaid Tryd.prog 4000 os) #[.slice none 0 0] 8 rfl (World.shaped_of_RefB (by kernel_rfl) (by kernel_rfl)) (by kernel_rfl) (by kernel_rfl) (by kernel_rfl) (met_FormatRoots os _)) ?_
  intro W base args ds gs before hval0 hW _ _ hL _
  have hval : ∀ (j : Nat) t v, Tryd.f3.params[j]? = some t → args[j]? = some v → Value.okWide Tryd.prog W .any base t v := hval0
  have hW' := hW
  obtain ⟨p, q, hA0, hV, rfl, hfz, hnd⟩ := hW
  have hA : DataW.TrodAll enc Tryd.prog W 0 (fun _ => true) true Tryd.f3.params.toList args.toList ds p := hA0
  rw [Tryd.params3] at hA hval
  obtain ⟨u0, d0, rfl, rfl, h0⟩ := trodAll_one hA
  obtain ⟨rfl, rfl⟩ := trodVars_none hV
  obtain ⟨m0, hm0, hf0, hg0⟩ := mat_open2 (hval 0 22 u0 rfl rfl) h0
  clear hA0 hval0
  simp only [List.append_nil] at hW'
  refine (frtl_law u0 m0 W hm0 hf0 hg0 (tab_of_FormatRoots hL)).mono fun e W' ⟨he, hw⟩ => ?_
  subst he
  exact ⟨_, rfl, law_post seat_laidOut (by kernel_rfl) rfl (by kernel_rfl) Tryd.underlying4 hW' rfl hw⟩

theorem frtl_holds : Rows.FnExactFormatRootsSaid :=
  OpenClaim.holds_of_wide 3 Tryd.f3 rfl rfl rfl rfl rfl rfl rfl ⟨rfl, rfl, rfl, rfl, rfl⟩ rfl rfl rfl rfl rfl (by kernel_rfl) Tryd.func3 (by kernel_rfl)
    (of_decide_eq_true (by kernel_rfl)) (by unfold Func.isWrapper; first | (rw [if_pos (by decide +kernel)]; kernel_rfl) | (rw [if_neg (by decide +kernel)]; exact ⟨rfl, rfl⟩))
    (fun os started H enc _ => frtl_lifted os started H enc)

theorem frtl_card : Rows.FnExactFormatRootsCardSaid :=
  Claim7.holds_tied_plain_at .later [] [.data, .data, .data] true Rows.fnExactFormatRootsCard.stood.harness false
    frtl_holds (fun _ h => by cases h) (by kernel_rfl) (fun _ h => by cases h) fnExactFormatRoots_row_tie rfl ⟨rfl, rfl⟩ (by kernel_rfl) rfl
    (fun f fn hf hfn => by
      obtain rfl : f = 3 := Option.some.inj ((show Tryd.prog.funcNamed Tryd.f3.name = some 3 by kernel_rfl).symm.trans hf) |>.symm
      obtain rfl : fn = Tryd.f3 := (Option.some.inj (Tryd.func3.symm.trans hfn)).symm
      exact ⟨by kernel_rfl, fun j t ht => by
        rw [Tryd.params3] at ht
        have hm : t ∈ [22] := by simpa using Array.mem_of_getElem? ht
        have hall : ([22].all fun u => !Tryd.prog.wantsStandIn u) = true := by kernel_rfl
        exact (show Tryd.prog.wantsStandIn t = false by simpa using List.all_eq_true.1 hall t hm)⟩)
    (by kernel_rfl)
end Go.Proofs.YtlbgblkoddlhnabDoor
