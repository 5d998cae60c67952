/-
  IsConnected and HasCycle of the model and of the program: what each call returns.
-/
import Derived.Test.YtgpcacgafbhhdaaDoorParts
namespace Go.Proofs.YtgpcacgafbhhdaaDoor
open Go.RowKit

def connB (m : Nat) : Bool := decide (m = 1)
theorem connB_int (L : Nat) : ((L : Int) == 1) = connB L := by
  unfold connB
  by_cases h : L = 1
  · subst h; rfl
  · rw [decide_eq_false h, beq_eq_false_iff_ne]; omega

set_option maxHeartbeats 1000000 in
set_option maxRecDepth 100000 in
theorem cons_any (B : Nat) (v : Value) (m : List (List Int)) (w : World) (h : MatB B w v m) (hB : B ≤ w.heap.size) (hf : RowsFit m) :
    Calls Tryd.prog 19 #[v] w fun e w' => e = .returned (.bool (connB (partsV m).length)) ∧ Below w.heap.size w w' := by
  have HL := Lib.hid (connB_int (partsV m).length)
  have HP := Lib.hid (parts_any B v m w h hB hf)
  go_enter Tryd.func19, Tryd.ntmps19
  go_wp2_with fail
  refine HP.out.mono ?_
  rintro e w2 ⟨x, rfl, hx, hb⟩
  obtain ⟨xa, xcap, rfl⟩ := hx.1.slice
  have HB := Lib.hid hb
  clear hx hb
  generalize hpl : (partsV m).length = L at *
  have HPL := Lib.hid hpl; clear hpl
  go_wp2_with fail
  go_ret
  exact ⟨ret_boolean (by rw [HPL.out]; exact HL.out), HB.out⟩

set_option maxHeartbeats 1000000 in
set_option maxRecDepth 100000 in
theorem coni_any (B : Nat) (v : Value) (m : List (List Int)) (w : World) (h : MatB B w v m) (hB : B ≤ w.heap.size) (hf : RowsFit m) :
    Calls Tryd.prog 23 #[v] w fun e w' => e = .returned (.bool (connB (partsV m).length)) ∧ Below w.heap.size w w' := by
  have HL := Lib.hid (connB_int (partsV m).length)
  have HP := Lib.hid (parti_any B v m w h hB hf)
  go_enter Tryd.func23, Tryd.ntmps23
  go_wp2_with fail
  refine HP.out.mono ?_
  rintro e w2 ⟨x, rfl, hx, hb⟩
  obtain ⟨xa, xcap, rfl⟩ := hx.1.slice
  have HB := Lib.hid hb
  clear hx hb
  generalize hpl : (partsV m).length = L at *
  have HPL := Lib.hid hpl; clear hpl
  go_wp2_with fail
  go_ret
  exact ⟨ret_boolean (by rw [HPL.out]; exact HL.out), HB.out⟩

/-! ### HasCycle -/
def cntK (E : Nat → Nat → Bool) (k j : Nat) : Nat := ((List.range j).filter (E k)).length
theorem cntK_le (E : Nat → Nat → Bool) (k j : Nat) : cntK E k j ≤ j := Nat.le_trans (List.length_filter_le _ _) (by rw [List.length_range]; exact Nat.le_refl _)
theorem cntK_yes {E : Nat → Nat → Bool} {k j : Nat} (h : E k j = true) : cntK E k (j + 1) = cntK E k j + 1 := by
  unfold cntK
  rw [List.range_succ, List.filter_append]
  simp [h]
theorem cntK_no {E : Nat → Nat → Bool} {k j : Nat} (h : E k j = false) : cntK E k (j + 1) = cntK E k j := by
  unfold cntK
  rw [List.range_succ, List.filter_append]
  simp [h]
theorem edgesN_succ (E : Nat → Nat → Bool) (k : Nat) : edgesN E (k + 1) = edgesN E k + cntK E k k := by
  unfold edgesN cntK
  rw [List.range_succ, List.map_append, List.sum_append]
  simp
theorem edgesN_le (E : Nat → Nat → Bool) (k : Nat) (hk : k ≤ 5) : edgesN E k ≤ 4 * k := by
  induction k with
  | zero => exact Nat.le_refl _
  | succ k ih =>
    rw [edgesN_succ]
    have h1 := ih (by omega)
    have h2 := cntK_le E k k
    omega
noncomputable def endsV (m : List (List Int)) (k : Nat) : Nat := ((List.range k).map fun i => (nbs m ((i : Nat) : Int)).length).sum
theorem endsV_succ (m : List (List Int)) (k : Nat) : endsV m (k + 1) = endsV m k + (nbs m (k : Int)).length := by
  unfold endsV
  rw [List.range_succ, List.map_append, List.sum_append]
  simp
theorem endsV_bad {m : List (List Int)} (h : ¬ IsC m) (k : Nat) : endsV m k = 0 := by
  induction k with
  | zero => rfl
  | succ k ih => rw [endsV_succ, ih, nbs_no (fun hh => h hh.1)]; rfl
theorem endsV_le {m : List (List Int)} (k : Nat) (hk : k ≤ m.length) : endsV m k ≤ 16 := by
  by_cases h : IsC m
  · have h4 := h.2.2.2
    have : endsV m k ≤ 4 * k := by
      clear hk
      induction k with
      | zero => exact Nat.le_refl _
      | succ k ih => rw [endsV_succ]; have := nbs_len m (k : Int); omega
    omega
  · rw [endsV_bad h]; omega
theorem endsV_good {m : List (List Int)} (h : IsC m) (k : Nat) (hk : k ≤ m.length) : endsV m k = endsN (nbG m m.length) k := by
  unfold endsV endsN
  congr 1
  apply List.map_congr_left
  intro i hi
  have hi := List.mem_range.1 hi
  rw [nbs_yes ⟨h, by omega⟩, nbK_eq, intL_len]
  rfl
open Classical in
noncomputable def cycB (m : List (List Int)) : Bool := decide (IsC m ∧ (m.length : Int) - ((partsV m).length : Nat) < ((edgesN (nbF m) m.length : Nat) : Int))
open Classical in
theorem cycB_good {m : List (List Int)} (h : IsC m) : cycB m = decide ((m.length : Int) - ((partsV m).length : Nat) < ((edgesN (nbF m) m.length : Nat) : Int)) := by
  unfold cycB
  rw [decide_eq_decide]
  exact ⟨fun h => h.2, fun h' => ⟨h, h'⟩⟩
open Classical in
theorem cycB_bad {m : List (List Int)} (h : ¬ IsC m) : cycB m = false := decide_eq_false (fun hh => h hh.1)

end Go.Proofs.YtgpcacgafbhhdaaDoor
