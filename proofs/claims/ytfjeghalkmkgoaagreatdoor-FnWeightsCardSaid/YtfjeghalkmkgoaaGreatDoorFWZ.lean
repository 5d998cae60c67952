/-
  Proved here: for every byte slice, the law FnWeights answers true and leaves its argument alone: weights are reflected as the model does, every reflection undoes itself, reflections satisfy the braid relation of their bond, and weights are read back from their texts: under the tables that the row lists as the program text lays them (the card ties them).
-/
import Derived.Test.YtfjeghalkmkgoaaGreatDoorTie
import Derived.Test.YtfjeghalkmkgoaaGreatDoorCards
import Derived.SevenTiedAt
import Derived.Lay
import Derived.Handed
import Derived.LaidMore
import Derived.OpenShut
import Derived.Stop.Joined
import Derived.Shelf.Vars
import Derived.Test.YtfjeghalkmkgoaaGreatDoorFW43
import Derived.Test.YtfjeghalkmkgoaaGreatDoorFW19
import Derived.Test.YtfjeghalkmkgoaaGreatDoorFW44
namespace Go.Proofs.YtfjeghalkmkgoaaGreatDoor
open Go.ChangeShapes Go.WideShapes Go.ChangeAt Go.ChangeMaps Go.RowKit
set_option maxRecDepth 100000

set_option maxHeartbeats 400000 in
theorem fwt_huge (a : Option Addr) (len cap : Nat) (w : World) (hl : len ≤ 9223372036854775807) (h : 1048576 < len) :
    Calls Tryz.prog 3 #[.slice a len cap] w fun e w' => e = .returned (.bool true) ∧ Below w.heap.size w w' := by
  have hbig : decide (1048576 < (len : Int)) = true := by rw [decide_eq_true_eq]; omega
  go_enter Tryz.func3, Tryz.ntmps3
  go_wp2_with fail
  refine (big_w _ a len cap hl).mono ?_
  rintro e w0 ⟨rfl, rfl⟩
  go_wp2_with fail
  go_ret
  exact ⟨rfl, Below.refl _ _⟩

theorem fwt_every {H : Type} {enc : TypeId × Value → H} {base : Nat} {d : DataW H} {ps : List MemPlace} (v : Value) (w : World) (hval : Value.okWide Tryz.prog w .any base 22 v)
    (h0 : DataW.Trod enc Tryz.prog w 0 (fun _ => true) true 22 v d ps) (hpow : Lib.TabIs Tryz.prog w "internal/strconv.uint64pow10" .u64 Lib.pow10Tab) :
    Calls Tryz.prog 3 #[v] w fun e w' => e = .returned (.bool true) ∧ Below w.heap.size w w' := by
  obtain ⟨a, len, cap, rfl, hl, hcode⟩ := code_open hval h0
  unfold maxLen at hl
  rcases Nat.lt_or_ge 1048576 len with h | h
  · exact fwt_huge a len cap w (by omega) h
  · exact fwt_law a len cap w h hcode hpow

theorem tab_of_wts {W : World} (h : laidMetH Tryz.prog Rows.fnWeightsRow.laid W) : Lib.TabIs Tryz.prog W "internal/strconv.uint64pow10" .u64 Lib.pow10Tab := by
  rw [MakeChecks.laidMetH_plain _ _ _ (by kernel_rfl)] at h
  exact Lib.tabIs_of_head (g := 3) (t := 142) (e := 114) (n := 20) (by kernel_rfl) (by kernel_rfl) (by kernel_rfl) (by kernel_rfl) (by kernel_rfl) (by kernel_rfl) (laidMet.tail (laidMet.tail h))

set_option maxRecDepth 100000 in
theorem fwt_lifted (os : Os) (started : os.Started) (H : Type) (enc : TypeId × Value → H) :
    ReturnsInHanded {} Tryz.checked os 3 .any (fun w args => (Rows.fnWeightsSpec.pre enc Tryz.prog Tryz.f3 [] false w args ∧ laidMetH Tryz.prog Rows.fnWeightsRow.laid w) ∧ sizedMet enc Tryz.prog Tryz.f3 (OpenSpec.ofChange Rows.fnWeightsSpec) false w args)
      (Rows.fnWeightsSpec.post enc Tryz.prog Tryz.f3 false true false false) := by
  refine returnsInHanded_of_calls (C := Tryz.checked) seat_own started (by kernel_rfl)
    (ChangeSpec.witness_shaped (enc := enc) (C := Tryz.checked) (os := os) (X := fun w _ => laidMetH Tryz.prog Rows.fnWeightsRow.laid w) false (World.laidAll Tryz.prog os Rows.fnWeightsRow.laid) #[.slice none 0 0] 8 (World.laidAll_os _ _ _)
      (World.shaped_of_ZipB (by kernel_rfl) (by kernel_rfl)) (by kernel_rfl) (by kernel_rfl) (by kernel_rfl)
      (by rw [MakeChecks.laidMetH_plain _ _ _ (by kernel_rfl)]; exact laidMet_laidAll _ (by kernel_rfl) (by kernel_rfl))) ?_
  rintro w0 tape ⟨vs, args, ivars⟩ _ hsh _ hok ⟨⟨⟨ds, gs, before, hw0, _⟩, hL0⟩, _⟩ _
  obtain ⟨_, _, _, fn', hfn', _, _, _, _, hval0⟩ := hok
  obtain rfl : fn' = Tryz.f3 := Option.some.inj (hfn'.symm.trans Tryz.func3)
  have hW := DataW.Whole.of_heap (w' := w0.forCall tape ⟨vs, args, ivars⟩) (by rfl) hw0
  have hL : laidMetH Tryz.prog Rows.fnWeightsRow.laid (w0.forCall tape ⟨vs, args, ivars⟩) := hL0.of_heap (by rfl)
  generalize w0.forCall tape ⟨vs, args, ivars⟩ = W at *
  have hval := hval0
  have hW' := hW
  obtain ⟨p, q, hA0, hV, rfl, hfz, hnd⟩ := hW
  have hA : DataW.TrodAll enc Tryz.prog W 0 (fun _ => true) true Tryz.f3.params.toList args.toList ds p := hA0
  rw [Tryz.params3] at hA hval
  obtain ⟨u0, d0, rfl, rfl, h0⟩ := trodAll_one hA
  obtain ⟨rfl, rfl⟩ := trodVars_none hV
  clear hA0 hval0
  simp only [List.append_nil] at hW'
  refine (fwt_every u0 W (hval 0 22 u0 rfl rfl) h0 (tab_of_wts hL)).mono fun e W' ⟨he, hw⟩ => ?_
  subst he
  exact ChangeSpec.post_blind (law_post seat_laidOut (by kernel_rfl) rfl (by kernel_rfl) Tryz.underlying4 hW' rfl hw)

theorem fwt_holds : Rows.FnWeightsSaid :=
  OpenClaim.holds_of_wide 3 Tryz.f3 rfl rfl rfl rfl rfl rfl rfl ⟨rfl, rfl, rfl, rfl, rfl⟩ rfl rfl rfl rfl rfl (by kernel_rfl) Tryz.func3 (by kernel_rfl)
    (of_decide_eq_true (by kernel_rfl)) (by unfold Func.isWrapper; first | (rw [if_pos (by decide +kernel)]; kernel_rfl) | (rw [if_neg (by decide +kernel)]; exact ⟨rfl, rfl⟩))
    (fun os started H enc _ => fwt_lifted os started H enc)

theorem fwt_card : Rows.FnWeightsCardSaid :=
  Claim7.holds_tied_plain_at .later [] [.data, .data, .data, .data, .pinned] true Rows.fnWeightsCard.stood.harness false
    fwt_holds (fun _ h => by cases h) (by kernel_rfl) (fun _ h => by cases h) fnWeights_row_tie rfl ⟨rfl, rfl⟩ (by kernel_rfl) rfl
    (fun f fn hf hfn => by
      obtain rfl : f = 3 := Option.some.inj ((show Tryz.prog.funcNamed Tryz.f3.name = some 3 by kernel_rfl).symm.trans hf) |>.symm
      obtain rfl : fn = Tryz.f3 := (Option.some.inj (Tryz.func3.symm.trans hfn)).symm
      exact ⟨by kernel_rfl, fun j t ht => by
        rw [Tryz.params3] at ht
        have hm : t ∈ [22] := by simpa using Array.mem_of_getElem? ht
        have hall : ([22].all fun u => !Tryz.prog.wantsStandIn u) = true := by kernel_rfl
        exact (show Tryz.prog.wantsStandIn t = false by simpa using List.all_eq_true.1 hall t hm)⟩)
    (by kernel_rfl)
end Go.Proofs.YtfjeghalkmkgoaaGreatDoor
