/-
  Proved here: for every string, the program ParseCartan returns what the model returns, in memory of its own, and the law answers true: under the tables that the row lists as the program text lays them (the card ties them).
-/
import Derived.Test.YtcmnkhblnlmfpaaDoorWtR
import Derived.Test.YtcmnkhblnlmfpaaDoorFrm
import Derived.Test.YtcmnkhblnlmfpaaDoorSeat
import Derived.Test.YtcmnkhblnlmfpaaDoorTie
import Derived.Test.YtcmnkhblnlmfpaaDoorCards
import Derived.SevenTiedAt
import Derived.Lay
namespace Go.Proofs.YtcmnkhblnlmfpaaDoor
open Go.ChangeShapes Go.WideShapes Go.ChangeAt Go.ChangeMaps Go.RowKit

theorem sum_le_mul (c : Nat) : ∀ (l : List Nat), (∀ x ∈ l, x ≤ c) → l.sum ≤ l.length * c
  | [], _ => by simp
  | x :: l, h => by
    have h1 := h x (by simp)
    have h2 := sum_le_mul c l (fun y hy => h y (by simp [hy]))
    rw [List.sum_cons, List.length_cons, Nat.succ_mul]; omega
theorem pcM_small (l : List UInt8) : szSum (pcM l) ≤ 1048576 := by
  by_cases h : PcOk l
  · rw [pcM_yes h]
    have hI := pc_isC h
    have hn := hI.2.2.2
    have h1 := sum_le_mul 4 ((parM l).map List.length) (fun x hx => by
      obtain ⟨r, hr, rfl⟩ := List.mem_map.1 hx
      obtain ⟨k, hk, rfl⟩ := List.getElem_of_mem hr
      have := hI.1 k hk
      rw [getD_row _ _ hk] at this
      omega)
    rw [List.length_map] at h1
    unfold szSum
    omega
  · rw [pcM_no h]; decide

set_option maxHeartbeats 2000000 in
set_option maxRecDepth 100000 in
theorem pcl_law (s0 : ByteArray) (w : World) (hs0 : s0.size ≤ maxLen) (htab : Lib.TabIs Tryd.prog w "internal/strconv.uint64pow10" .u64 Lib.pow10Tab) :
    Calls Tryd.prog 6 #[.string s0] w fun e w' => e = .returned (.bool true) ∧ Below w.heap.size w w' := by
  have HT := Lib.hid htab; clear htab
  have hbad0 := hs0; unfold maxLen at hbad0
  by_cases hg0 : s0.size > 1048576
  · skip
    go_enter Tryd.func6, Tryd.ntmps6
    go_wp2_with fail
    go_ret
    exact ⟨rfl, Below.refl _ _⟩
  have HS0 : Hid (s0.size ≤ 1048576) := Lib.hid (by omega)
  go_enter Tryd.func6, Tryd.ntmps6
  go_wp2_with fail
  refine (pcs_any s0 _ HS0.out).mono ?_
  rintro e w1 ⟨xs, rfl, hs, hb⟩
  have Hs_1 := Lib.hid hs; clear hs
  have HB1 := Lib.hid hb
  have HSZ1 := Lib.hid hb.size
  clear hb
  go_wp2_with fail
  refine (pci_any s0 _ HS0.out (tab_below HT.out HB1.out)).mono ?_
  rintro e w2 ⟨xg, rfl, hg, hb⟩
  have Hg_2 := Lib.hid hg; clear hg
  have HB2 := Lib.hid (HB1.out.trans (hb.mono HB1.out.size))
  have HSZ2 := Lib.hid hb.size
  have Hs_2 := Lib.hid (Hs_1.out.step hb)
  clear Hs_1
  clear hb
  go_wp2_with fail
  refine (eqM_same _ _ _ _ (pcM s0.data.toList) _ Hg_2.out.matB Hs_2.out.matB (fit_of_small (small_of (pcM_small s0.data.toList)))).mono ?_
  rintro e w3 ⟨rfl, hq⟩
  have hb : Below w2.heap.size w2 w3 := by obtain ⟨q, hq'⟩ := hq; rw [hq']; exact below_drewN q
  clear hq
  have HB3 := Lib.hid (HB2.out.trans (hb.mono HB2.out.size))
  have HSZ3 := Lib.hid hb.size
  have Hs_3 := Lib.hid (Hs_2.out.step hb)
  clear Hs_2
  have Hg_3 := Lib.hid (Hg_2.out.step hb)
  clear Hg_2
  clear hb
  go_wp2_with fail
  refine (markM_own _ _ _ (pcM s0.data.toList) (1) _ Hg_3.out (pcM_small s0.data.toList) (by omega)).mono ?_
  rintro e w4 ⟨rfl, hg, ho⟩
  clear Hg_3
  have Hg_4 := Lib.hid hg; clear hg
  have HB4 := Lib.hid (ho.below (HB1.out.size) HB3.out)
  have HSZ4 : Hid (w3.heap.size ≤ w4.heap.size) := Lib.hid (Nat.le_of_eq ho.size.symm)
  have Hs_4 := Lib.hid (Hs_3.out.only ho (Or.inl (by exact Nat.le_refl _)))
  clear Hs_3
  clear ho
  go_wp2_with fail
  refine (heldM_own _ _ (pcM s0.data.toList) 1 _ Hg_4.out.matB (pcM_small s0.data.toList) (by omega)).mono ?_
  rintro e w' ⟨rfl, rfl⟩
  go_wp2_with fail
  refine (pci_any s0 _ HS0.out (tab_below HT.out HB4.out)).mono ?_
  rintro e w5 ⟨xh, rfl, hh, hb⟩
  have Hh_5 := Lib.hid hh; clear hh
  have HB5 := Lib.hid (HB4.out.trans (hb.mono HB4.out.size))
  have HSZ5 := Lib.hid hb.size
  have Hs_5 := Lib.hid (Hs_4.out.step hb)
  clear Hs_4
  have Hg_5 := Lib.hid (Hg_4.out.step hb)
  clear Hg_4
  clear hb
  go_wp2_with fail
  refine (eqM_same _ _ _ _ (pcM s0.data.toList) _ Hh_5.out.matB Hs_5.out.matB (fit_of_small (small_of (pcM_small s0.data.toList)))).mono ?_
  rintro e w6 ⟨rfl, hq⟩
  have hb : Below w5.heap.size w5 w6 := by obtain ⟨q, hq'⟩ := hq; rw [hq']; exact below_drewN q
  clear hq
  have HB6 := Lib.hid (HB5.out.trans (hb.mono HB5.out.size))
  have HSZ6 := Lib.hid hb.size
  have Hs_6 := Lib.hid (Hs_5.out.step hb)
  clear Hs_5
  have Hg_6 := Lib.hid (Hg_5.out.step hb)
  clear Hg_5
  have Hh_6 := Lib.hid (Hh_5.out.step hb)
  clear Hh_5
  clear hb
  go_wp2_with fail
  refine (heldM_own _ _ (pcM s0.data.toList) 1 _ Hg_6.out.matB (pcM_small s0.data.toList) (by omega)).mono ?_
  rintro e w' ⟨rfl, rfl⟩
  go_wp2_with fail
  go_ret
  exact ⟨rfl, HB6.out⟩

set_option maxRecDepth 100000 in
theorem pcl_lifted (os : Os) (started : os.Started) (H : Type) (enc : TypeId × Value → H) :
    ReturnsInHanded {} Tryd.checked os 6 .any (fun w args => (Rows.fnExactParseCartanSpec.pre enc Tryd.prog Tryd.f6 [] false w args ∧ laidMetH Tryd.prog laidParseCartan w) ∧ sizedMet enc Tryd.prog Tryd.f6 (OpenSpec.ofChange Rows.fnExactParseCartanSpec) false w args)
      (Rows.fnExactParseCartanSpec.post enc Tryd.prog Tryd.f6 false true false false) := by
  refine returnsInHanded_of_change_and (C := Tryd.checked) (X := fun w _ => laidMetH Tryd.prog laidParseCartan w) (fun _ _ _ hh h => h.of_heap hh) seat_own started (by kernel_rfl) Tryd.func6
    (ChangeSpec.witness_shaped (enc := enc) (C := Tryd.checked) (os := os) (X := fun w _ => laidMetH Tryd.prog laidParseCartan w) false (World.laidAll Tryd.prog os laidParseCartan) #[.string (ByteArray.mk #[])] 8 (World.laidAll_os _ _ _)
      (World.shaped_of_ZipB (by kernel_rfl) (by kernel_rfl)) (by kernel_rfl) (by kernel_rfl) (by kernel_rfl)
      (by rw [MakeChecks.laidMetH_plain _ _ _ (by kernel_rfl)]; exact laidMet_laidAll _ (by kernel_rfl) (by kernel_rfl))) ?_
  intro W base args ds gs before hval0 hW _ _ hL _
  have hval : ∀ (j : Nat) t v, Tryd.f6.params[j]? = some t → args[j]? = some v → Value.okWide Tryd.prog W .any base t v := hval0
  have hW' := hW
  obtain ⟨p, q, hA0, hV, rfl, hfz, hnd⟩ := hW
  have hA : DataW.TrodAll enc Tryd.prog W 0 (fun _ => true) true Tryd.f6.params.toList args.toList ds p := hA0
  rw [Tryd.params6] at hA hval
  obtain ⟨u0, d0, rfl, rfl, h0⟩ := trodAll_one hA
  obtain ⟨rfl, rfl⟩ := trodVars_none hV
  obtain ⟨x0, rfl, rfl, rfl, q0⟩ := open_string Tryd.underlying9 (hval 0 9 u0 rfl rfl) h0
  clear hA0 hval0
  simp only [List.append_nil] at hW'
  refine (pcl_law x0 W q0 (tab_of_ParseCartan hL)).mono fun e W' ⟨he, hw⟩ => ?_
  subst he
  exact ⟨_, rfl, law_post seat_laidOut (by kernel_rfl) rfl (by kernel_rfl) Tryd.underlying4 hW' rfl hw⟩

theorem pcl_holds : Rows.FnExactParseCartanSaid :=
  OpenClaim.holds_of_wide 6 Tryd.f6 rfl rfl rfl rfl rfl rfl rfl ⟨rfl, rfl, rfl, rfl, rfl⟩ rfl rfl rfl rfl rfl (by kernel_rfl) Tryd.func6 (by kernel_rfl)
    (of_decide_eq_true (by kernel_rfl)) (by unfold Func.isWrapper; first | (rw [if_pos (by decide +kernel)]; kernel_rfl) | (rw [if_neg (by decide +kernel)]; exact ⟨rfl, rfl⟩))
    (fun os started H enc _ => pcl_lifted os started H enc)

theorem pcl_card : Rows.FnExactParseCartanCardSaid :=
  Claim7.holds_tied_plain_at .later [] [.data, .data, .data, .data, .pinned] true Rows.fnExactParseCartanCard.stood.harness false
    pcl_holds (fun _ h => by cases h) (by kernel_rfl) (fun _ h => by cases h) fnExactParseCartan_row_tie rfl ⟨rfl, rfl⟩ (by kernel_rfl) rfl
    (fun f fn hf hfn => by
      obtain rfl : f = 6 := Option.some.inj ((show Tryd.prog.funcNamed Tryd.f6.name = some 6 by kernel_rfl).symm.trans hf) |>.symm
      obtain rfl : fn = Tryd.f6 := (Option.some.inj (Tryd.func6.symm.trans hfn)).symm
      exact ⟨by kernel_rfl, fun j t ht => by
        rw [Tryd.params6] at ht
        have hm : t ∈ [9] := by simpa using Array.mem_of_getElem? ht
        have hall : ([9].all fun u => !Tryd.prog.wantsStandIn u) = true := by kernel_rfl
        exact (show Tryd.prog.wantsStandIn t = false by simpa using List.all_eq_true.1 hall t hm)⟩)
    (by kernel_rfl)
end Go.Proofs.YtcmnkhblnlmfpaaDoor
