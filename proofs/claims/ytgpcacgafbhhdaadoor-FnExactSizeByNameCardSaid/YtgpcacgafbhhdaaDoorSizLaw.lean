/-
  Proved here: for every string, the program SizeByName returns what the model returns, and the law answers true: under the tables that the row lists as the program text lays them (the card ties them).
-/
import Derived.Test.YtgpcacgafbhhdaaDoorSizI
import Derived.Test.YtgpcacgafbhhdaaDoorLaw
import Derived.Test.YtgpcacgafbhhdaaDoorFrm
import Derived.Test.YtgpcacgafbhhdaaDoorSeat
import Derived.Test.YtgpcacgafbhhdaaDoorTie
import Derived.Test.YtgpcacgafbhhdaaDoorCards
import Derived.SevenTiedAt
import Derived.Lay
import Derived.Handed
import Derived.LaidMore
import Derived.OpenShut
import Derived.Stop.Joined
import Derived.Shelf.Vars
namespace Go.Proofs.YtgpcacgafbhhdaaDoor
open Go.ChangeShapes Go.WideShapes Go.ChangeAt Go.ChangeMaps Go.RowKit

abbrev sizeLaid : List (String × DataW Unit) := Rows.fnExactSizeByNameRow.laid
/-- The library's variable MaxLen holds some number. -/
def MaxIs (w : World) : Prop := (∃ x, w.cell? ⟨1, 0, none⟩ = some (.int .i64 x)) ∧ 1 < w.heap.size
theorem MaxIs.below {W W' : World} (h : MaxIs W) (hb : Below W.heap.size W W') : MaxIs W' := ⟨by obtain ⟨x, hx⟩ := h.1; exact ⟨x, (hb.cell (p := ⟨1, 0, none⟩) h.2).trans hx⟩, Nat.lt_of_lt_of_le h.2 hb.size⟩
theorem max_of_shape {W : World} (h : W.ShapedOpen Tryd.prog) : MaxIs W := by
  have hc : ∃ x, W.cell? ⟨1, 0, none⟩ = some (.int .i64 x) := cell_of_shapedOpen_int (t := 3) (zero := #[.int .i64 0]) h (of_decide_eq_true (by kernel_rfl)) (by kernel_rfl) rfl (by kernel_rfl) (by kernel_rfl) Tryd.underlying3
  refine ⟨hc, ?_⟩
  obtain ⟨x, hx⟩ := hc
  rcases Nat.lt_or_ge 1 W.heap.size with h | h
  · exact h
  · simp [World.cell?, Array.getElem?_eq_none h] at hx
theorem szi_m (s : ByteArray) (w : World) (hs : s.size ≤ 1048576) (hm : MaxIs w) : Calls Tryd.prog 14 #[.string s] w fun e w' => e = .returned (.int .i64 (sizeO s.data.toList)) ∧ Below w.heap.size w w' := by
  obtain ⟨⟨x, hx⟩, _⟩ := hm
  exact szi_any s x w hs hx

set_option maxHeartbeats 2000000 in
set_option maxRecDepth 100000 in
theorem szl_law (s0 : ByteArray) (w : World) (hs0 : s0.size ≤ maxLen) (htab : MaxIs w) :
    Calls Tryd.prog 5 #[.string s0] w fun e w' => e = .returned (.bool true) ∧ Below w.heap.size w w' := by
  have HT := Lib.hid htab; clear htab
  have hbad0 := hs0; unfold maxLen at hbad0
  by_cases hg0 : s0.size > 1048576
  · skip
    go_enter Tryd.func5, Tryd.ntmps5
    go_wp2_with fail
    go_ret
    exact ⟨rfl, Below.refl _ _⟩
  have HS0 : Hid (s0.size ≤ 1048576) := Lib.hid (by omega)
  go_enter Tryd.func5, Tryd.ntmps5
  go_wp2_with fail
  refine (szs_any s0 _ HS0.out).mono ?_
  rintro e w1 ⟨rfl, hb⟩
  have HB1 := Lib.hid hb
  have HSZ1 := Lib.hid hb.size
  clear hb
  go_wp2_with fail
  refine (szi_m s0 _ HS0.out (MaxIs.below HT.out HB1.out)).mono ?_
  rintro e w2 ⟨rfl, hb⟩
  have HB2 := Lib.hid (HB1.out.trans (hb.mono HB1.out.size))
  have HSZ2 := Lib.hid hb.size
  clear hb
  go_wp2_with fail
  go_ret
  exact ⟨rfl, HB2.out⟩

set_option maxRecDepth 100000 in
theorem szl_lifted (os : Os) (started : os.Started) (H : Type) (enc : TypeId × Value → H) :
    ReturnsInHanded {} Tryd.checked os 5 .any (fun w args => (Rows.fnExactSizeByNameSpec.pre enc Tryd.prog Tryd.f5 [] false w args ∧ laidMetH Tryd.prog sizeLaid w) ∧ sizedMet enc Tryd.prog Tryd.f5 (OpenSpec.ofChange Rows.fnExactSizeByNameSpec) false w args)
      (Rows.fnExactSizeByNameSpec.post enc Tryd.prog Tryd.f5 false true false false) := by
  refine returnsInHanded_of_calls (C := Tryd.checked) seat_own started (by kernel_rfl)
    (ChangeSpec.witness_shaped (enc := enc) (C := Tryd.checked) (os := os) (X := fun w _ => laidMetH Tryd.prog sizeLaid w) false (World.laidAll Tryd.prog os sizeLaid) #[.string (ByteArray.mk #[])] 8 (World.laidAll_os _ _ _)
      (World.shaped_of_ZipB (by kernel_rfl) (by kernel_rfl)) (by kernel_rfl) (by kernel_rfl) (by kernel_rfl)
      (by rw [MakeChecks.laidMetH_plain _ _ _ (by kernel_rfl)]; exact laidMet_laidAll _ (by kernel_rfl) (by kernel_rfl))) ?_
  rintro w0 tape ⟨vs, args, ivars⟩ _ hsh _ hok ⟨⟨⟨ds, gs, before, hw0, _⟩, _⟩, _⟩ _
  obtain ⟨_, _, _, fn', hfn', _, _, _, _, hval0⟩ := hok
  obtain rfl : fn' = Tryd.f5 := Option.some.inj (hfn'.symm.trans Tryd.func5)
  have hW := DataW.Whole.of_heap (w' := w0.forCall tape ⟨vs, args, ivars⟩) (by rfl) hw0
  generalize w0.forCall tape ⟨vs, args, ivars⟩ = W at *
  have hval := hval0
  have hW' := hW
  obtain ⟨p, q, hA0, hV, rfl, hfz, hnd⟩ := hW
  have hA : DataW.TrodAll enc Tryd.prog W 0 (fun _ => true) true Tryd.f5.params.toList args.toList ds p := hA0
  rw [Tryd.params5] at hA hval
  obtain ⟨u0, d0, rfl, rfl, h0⟩ := trodAll_one hA
  obtain ⟨rfl, rfl⟩ := trodVars_none hV
  obtain ⟨x0, rfl, rfl, rfl, q0⟩ := open_string Tryd.underlying9 (hval 0 9 u0 rfl rfl) h0
  clear hA0 hval0
  simp only [List.append_nil] at hW'
  refine (szl_law x0 W q0 (max_of_shape hsh)).mono fun e W' ⟨he, hw⟩ => ?_
  subst he
  exact ChangeSpec.post_blind (law_post seat_laidOut (by kernel_rfl) rfl (by kernel_rfl) Tryd.underlying4 hW' rfl hw)

theorem szl_holds : Rows.FnExactSizeByNameSaid :=
  OpenClaim.holds_of_wide 5 Tryd.f5 rfl rfl rfl rfl rfl rfl rfl ⟨rfl, rfl, rfl, rfl, rfl⟩ rfl rfl rfl rfl rfl (by kernel_rfl) Tryd.func5 (by kernel_rfl)
    (of_decide_eq_true (by kernel_rfl)) (by unfold Func.isWrapper; first | (rw [if_pos (by decide +kernel)]; kernel_rfl) | (rw [if_neg (by decide +kernel)]; exact ⟨rfl, rfl⟩))
    (fun os started H enc _ => szl_lifted os started H enc)

theorem szl_card : Rows.FnExactSizeByNameCardSaid :=
  Claim7.holds_tied_plain_at .later [] [.data, .pinned] true Rows.fnExactSizeByNameCard.stood.harness false
    szl_holds (fun _ h => by cases h) (by kernel_rfl) (fun _ h => by cases h) fnExactSizeByName_row_tie rfl ⟨rfl, rfl⟩ (by kernel_rfl) rfl
    (fun f fn hf hfn => by
      obtain rfl : f = 5 := Option.some.inj ((show Tryd.prog.funcNamed Tryd.f5.name = some 5 by kernel_rfl).symm.trans hf) |>.symm
      obtain rfl : fn = Tryd.f5 := (Option.some.inj (Tryd.func5.symm.trans hfn)).symm
      exact ⟨by kernel_rfl, fun j t ht => by
        rw [Tryd.params5] at ht
        have hm : t ∈ [9] := by simpa using Array.mem_of_getElem? ht
        have hall : ([9].all fun u => !Tryd.prog.wantsStandIn u) = true := by kernel_rfl
        exact (show Tryd.prog.wantsStandIn t = false by simpa using List.all_eq_true.1 hall t hm)⟩)
    (by kernel_rfl)
end Go.Proofs.YtgpcacgafbhhdaaDoor
