/-
  Roots: what the program's SimpleRoot and the two sides' IsRootVector return.
-/
import Derived.Test.YtlbgblkoddlhnaaRsC
import Derived.Test.YtlbgblkoddlhnaaRiA
import Derived.Test.YtlbgblkoddlhnaaWtI
namespace Go.Proofs.Ytlbgblkoddlhnaa
open Go.RowKit

theorem ownS_nil {w w' : World} (_h : Below w.heap.size w w') : OwnS w.heap.size w'.heap.size w' (.slice none 0 0) [] := ⟨⟨World.ownsRow_nil _ _ _ _, fun g h => by simp [Value.ownBlock] at h⟩, Nat.le_refl _⟩
set_option maxHeartbeats 2000000 in
set_option maxRecDepth 100000 in
theorem simi_any (B : Nat) (v : Value) (m : List (List Int)) (i : Int) (w : World) (h : MatB B w v m) (_hB : B ≤ w.heap.size) (hf : RowsFit m) :
    Calls Try.prog 33 #[v, .int .i64 i] w (MakesS w (simR m i)) := by
  have HIS := Lib.hid (fun c (hc : isB m = c) => icm_0 B v m c hc w h hf)
  have hlm := hf.1
  obtain ⟨a, cap, rfl⟩ := h.slice
  unfold maxLen at hlm
  have HPT := Lib.hid (fun (c : Bool) (hc : ptB i m.length = c) (wx : World) => pt_c a m.length cap i c hc wx (by omega))
  clear h hf
  by_cases hI : IsC m
  · have HC := Lib.hid (HIS.out true (isB_yes hI))
    have hn4 := hI.2.2.2
    by_cases hi : 0 ≤ i ∧ i ≤ (m.length : Int) - 1
    · have HV := Lib.hid (simR_yes ⟨hI, hi⟩)
      have HP := Lib.hid (HPT.out true (ptB_yes hi))
      obtain ⟨k, rfl⟩ := Int.eq_ofNat_of_zero_le hi.1
      have hk : k < m.length := by omega
      rw [HV.out]
      simp only [Int.toNat_natCast]
      clear hI HIS HV hi HPT
      generalize m.length = n at *
      go_enter Try.func33, Try.ntmps33
      go_wp2_with fail
      refine HC.out.mono ?_
      rintro e w1 ⟨rfl, q, rfl⟩
      go_wp2_with fail
      refine (HP.out _).mono ?_
      rintro e w' ⟨rfl, rfl⟩
      have hbq : Below w.heap.size w (w.drewN q) := below_drewN q
      obtain ⟨w1, hw1⟩ : ∃ w1, w1 = w.drewN q := ⟨_, rfl⟩
      rw [← hw1] at hbq ⊢
      clear hw1
      have HB1 := Lib.hid hbq
      clear hbq
      have hmk := makeInts n (by omega) w1
      have hkz : k < (intsV (zerosR n)).length := by rw [intsV_len]; show k < (List.replicate n (0 : Int)).length; simp; omega
      have hun := (unit_new w1 n k (by omega)).mono HB1.out.size (Nat.le_refl _)
      have hbn : Below w.heap.size w (w1.alloc (.cells ((intsV (zerosR n)).set k (.int .i64 1)).toArray 3)) := HB1.out.alloc HB1.out.size _
      have HST := Lib.hid hun; have HGS := Lib.hid hbn
      clear hun hbn
      go_wp2_with fail
      go_ret
      exact ⟨_, rfl, ⟨HST.out, Nat.le_refl _⟩, HGS.out⟩
    · have HV := Lib.hid (simR_no (m := m) (i := i) (fun h => hi h.2))
      have HP := Lib.hid (HPT.out false (ptB_no hi))
      rw [HV.out]
      clear hI HIS HV hi HPT
      generalize m.length = n at *
      go_enter Try.func33, Try.ntmps33
      go_wp2_with fail
      refine HC.out.mono ?_
      rintro e w1 ⟨rfl, q, rfl⟩
      go_wp2_with fail
      refine (HP.out _).mono ?_
      rintro e w' ⟨rfl, rfl⟩
      go_wp2_with fail
      go_ret
      exact ⟨_, rfl, ownS_nil (below_drewN q), below_drewN q⟩
  · have HC := Lib.hid (HIS.out false (isB_no hI))
    rw [simR_no (fun h => hI h.1)]
    clear hI HIS HPT
    generalize m.length = n at *
    go_enter Try.func33, Try.ntmps33
    go_wp2_with fail
    refine HC.out.mono ?_
    rintro e w1 ⟨rfl, q, rfl⟩
    go_wp2_with fail
    go_ret
    exact ⟨_, rfl, ownS_nil (below_drewN q), below_drewN q⟩
set_option maxHeartbeats 2000000 in
set_option maxRecDepth 100000 in
theorem isrs_b (B B' : Nat) (v v' : Value) (m : List (List Int)) (l : List Int) (w : World) (h : MatB B w v m) (h' : RowB B' w v' l) (hf : RowsFit m) (hl : l.length ≤ maxLen) :
    Calls Try.prog 26 #[v, v'] w fun e w' => e = .returned (.bool (wtB m l)) ∧ Below w.heap.size w w' := by
  have HC := Lib.hid (iswts_b B B' v v' m l w h h' hf hl)
  clear h h' hf hl
  go_enter Try.func26, Try.ntmps26
  go_wp2_with fail
  refine HC.out.mono ?_
  rintro e w1 ⟨rfl, hb⟩
  have HB := Lib.hid hb
  clear hb
  go_wp2_with fail
  go_ret
  exact ⟨rfl, HB.out⟩
set_option maxHeartbeats 2000000 in
set_option maxRecDepth 100000 in
theorem isri_b (B B' : Nat) (v v' : Value) (m : List (List Int)) (l : List Int) (w : World) (h : MatB B w v m) (h' : RowB B' w v' l) (hf : RowsFit m) (hl : l.length ≤ maxLen) :
    Calls Try.prog 27 #[v, v'] w fun e w' => e = .returned (.bool (wtB m l)) ∧ Below w.heap.size w w' := by
  have HC := Lib.hid (iswti_b B B' v v' m l w h h' hf hl)
  clear h h' hf hl
  go_enter Try.func27, Try.ntmps27
  go_wp2_with fail
  refine HC.out.mono ?_
  rintro e w1 ⟨rfl, hb⟩
  have HB := Lib.hid hb
  clear hb
  go_wp2_with fail
  go_ret
  exact ⟨rfl, HB.out⟩
end Go.Proofs.Ytlbgblkoddlhnaa
