/-
  Proved here: for every byte slice, the law FnDiagrams answers true and leaves its argument alone: what is drawn from it is found isomorphic, symmetric and connected by the program as by the model, and the symmetries are closed under composition: under the table of names as the program text lays it (the card ties them).
-/
import Derived.Test.YtppimgkampkfjaaGreatDoorTie
import Derived.Test.YtppimgkampkfjaaGreatDoorCards
import Derived.SevenTiedAt
import Derived.Test.YtppimgkampkfjaaGreatDoorFdg36
import Derived.Test.YtppimgkampkfjaaGreatDoorFdg27
namespace Go.Proofs.YtppimgkampkfjaaGreatDoor
open Go.ChangeShapes Go.WideShapes Go.ChangeAt Go.ChangeMaps Go.RowKit
set_option maxRecDepth 100000

set_option maxHeartbeats 400000 in
theorem fd_huge (a : Option Addr) (len cap : Nat) (w : World) (hl : len ≤ 9223372036854775807) (h : 1048576 < len) :
    Calls Tryz.prog 4 #[.slice a len cap] w fun e w' => e = .returned (.bool true) ∧ Below w.heap.size w w' := by
  have hbig : decide (1048576 < (len : Int)) = true := by rw [decide_eq_true_eq]; omega
  go_enter Tryz.func4, Tryz.ntmps4
  go_wp2_with fail
  refine (big_any _ a len cap hl).mono ?_
  rintro e w0 ⟨rfl, rfl⟩
  go_wp2_with fail
  go_ret
  exact ⟨rfl, Below.refl _ _⟩

theorem fd_every {H : Type} {enc : TypeId × Value → H} {base : Nat} {d : DataW H} {ps : List MemPlace} (v : Value) (w : World) (hval : Value.okWide Tryz.prog w .any base 22 v)
    (h0 : DataW.Trod enc Tryz.prog w 0 (fun _ => true) true 22 v d ps) (htab : NamesIs w namesL) :
    Calls Tryz.prog 4 #[v] w fun e w' => e = .returned (.bool true) ∧ Below w.heap.size w w' := by
  obtain ⟨a, len, cap, rfl, hl, hcode⟩ := code_open hval h0
  unfold maxLen at hl
  rcases Nat.lt_or_ge 1048576 len with h | h
  · exact fd_huge a len cap w (by omega) h
  · exact fd_law a len cap w h hcode htab

theorem fd_met (os : Os) (args : Array Value) : laidMetH Tryz.prog Rows.fnDiagramsRow.laid ((World.doorLaid Tryz.prog 4000 os).forCall (fun _ _ => 0) ⟨#[], args, []⟩).memory :=
  laidMetH_of_parts3 (fuel := 8) (laidMet_of_run' 8 (by kernel_rfl) (by kernel_rfl)) (by kernel_rfl) (by kernel_rfl)
theorem fd_names {W : World} (h : laidMetH Tryz.prog Rows.fnDiagramsRow.laid W) : NamesIs W namesL := by
  rw [MakeChecks.laidMetH_plain _ _ _ (by kernel_rfl)] at h
  obtain ⟨ps, ⟨g', t', cs, fuel, p, q, hg', ht', hvar, hd, _, _⟩, _⟩ := h
  have hg : Tryz.prog.globalNamed "loop.example/g02076/impl.partNames" = some 0 := by kernel_rfl
  have ht : (Tryz.prog.globals[0]?).map (·.type) = some 94 := by kernel_rfl
  obtain rfl := Option.some.inj (hg.symm.trans hg')
  obtain rfl := Option.some.inj (ht.symm.trans ht')
  unfold NamesIs namesL
  rw [hvar, ← cells_of_strs (n := 17) (e := 9) (by kernel_rfl) (by kernel_rfl) (by kernel_rfl) (by kernel_rfl) hd]

set_option maxRecDepth 100000 in
theorem fd_lifted (os : Os) (started : os.Started) (H : Type) (enc : TypeId × Value → H) :
    ReturnsInHanded {} Tryz.checked os 4 .any (fun w args => (Rows.fnDiagramsSpec.pre enc Tryz.prog Tryz.f4 [] false w args ∧ laidMetH Tryz.prog Rows.fnDiagramsRow.laid w) ∧ sizedMet enc Tryz.prog Tryz.f4 (OpenSpec.ofChange Rows.fnDiagramsSpec) false w args)
      (Rows.fnDiagramsSpec.post enc Tryz.prog Tryz.f4 false true false false) := by
  refine returnsInHanded_of_change_and (C := Tryz.checked) (X := fun w _ => laidMetH Tryz.prog Rows.fnDiagramsRow.laid w) (fun _ _ _ hh h => h.of_heap hh) seat_own started (by kernel_rfl) Tryz.func4
    (ChangeSpec.witness_shaped (enc := enc) (C := Tryz.checked) (os := os) (X := fun w _ => laidMetH Tryz.prog Rows.fnDiagramsRow.laid w) false (World.doorLaid Tryz.prog 4000 os) #[.slice none 0 0] 8 rfl (World.shaped_of_RefB (by kernel_rfl) (by kernel_rfl)) (by kernel_rfl) (by kernel_rfl) (by kernel_rfl) (fd_met os _)) ?_
  intro W base args ds gs before hval0 hW _ _ hL _
  have hval : ∀ (j : Nat) t v, Tryz.f4.params[j]? = some t → args[j]? = some v → Value.okWide Tryz.prog W .any base t v := hval0
  have hW' := hW
  obtain ⟨p, q, hA0, hV, rfl, hfz, hnd⟩ := hW
  have hA : DataW.TrodAll enc Tryz.prog W 0 (fun _ => true) true Tryz.f4.params.toList args.toList ds p := hA0
  rw [Tryz.params4] at hA hval
  obtain ⟨u0, d0, rfl, rfl, h0⟩ := trodAll_one hA
  clear hA0 hval0
  refine (fd_every u0 W (hval 0 22 u0 rfl rfl) h0 (fd_names hL)).mono fun e W' ⟨he, hw⟩ => ?_
  subst he
  exact ⟨_, rfl, law_post1 seat_laidOut (by kernel_rfl) rfl (g0 := 0) (t0 := 94) (by kernel_rfl) (by kernel_rfl) (by kernel_rfl) rfl Tryz.underlying4 hW' (fun g hg => by subst hg; rfl) hw⟩

theorem fd_holds : Rows.FnDiagramsSaid :=
  OpenClaim.holds_of_wide 4 Tryz.f4 rfl rfl rfl rfl rfl rfl rfl ⟨rfl, rfl, rfl, rfl, rfl⟩ rfl rfl rfl rfl rfl (by kernel_rfl) Tryz.func4 (by kernel_rfl)
    (of_decide_eq_true (by kernel_rfl)) (by unfold Func.isWrapper; first | (rw [if_pos (by decide +kernel)]; kernel_rfl) | (rw [if_neg (by decide +kernel)]; exact ⟨rfl, rfl⟩))
    (fun os started H enc _ => fd_lifted os started H enc)

theorem fd_card : Rows.FnDiagramsCardSaid :=
  Claim7.holds_tied_plain_at .later [] [.data] true Rows.fnDiagramsCard.stood.harness false
    fd_holds (fun _ h => by cases h) (by kernel_rfl) (fun _ h => by cases h) fnDiagrams_row_tie rfl ⟨rfl, rfl⟩ (by kernel_rfl) rfl
    (fun f fn hf hfn => by
      obtain rfl : f = 4 := Option.some.inj ((show Tryz.prog.funcNamed Tryz.f4.name = some 4 by kernel_rfl).symm.trans hf) |>.symm
      obtain rfl : fn = Tryz.f4 := (Option.some.inj (Tryz.func4.symm.trans hfn)).symm
      exact ⟨by kernel_rfl, fun j t ht => by
        rw [Tryz.params4] at ht
        have hm : t ∈ [22] := by simpa using Array.mem_of_getElem? ht
        have hall : ([22].all fun u => !Tryz.prog.wantsStandIn u) = true := by kernel_rfl
        exact (show Tryz.prog.wantsStandIn t = false by simpa using List.all_eq_true.1 hall t hm)⟩)
    (by kernel_rfl)
end Go.Proofs.YtppimgkampkfjaaGreatDoor
