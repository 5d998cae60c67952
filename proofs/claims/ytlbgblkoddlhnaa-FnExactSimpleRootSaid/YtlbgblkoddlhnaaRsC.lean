/-
  Roots: what the model's SimpleRoot and WeightOfRoot return.
-/
import Derived.Test.YtlbgblkoddlhnaaRsB
import Derived.Test.YtlbgblkoddlhnaaTrI
namespace Go.Proofs.Ytlbgblkoddlhnaa
open Go.RowKit

theorem unit_new (w1 : World) (n k : Nat) (hn : n ≤ 1048576) : RowI w1.heap.size (w1.alloc (.cells ((intsV (zerosR n)).set k (.int .i64 1)).toArray 3)).heap.size (w1.alloc (.cells ((intsV (zerosR n)).set k (.int .i64 1)).toArray 3)) (.slice (some ⟨w1.heap.size, 0, none⟩) n n) (unitR n k) := by
  have e : (intsV (zerosR n)).set k (.int .i64 1) = intsV (unitR n k) := by rw [intsV_set]; rfl
  have hl : (unitR n k).length = n := unitR_len n k
  rw [e]
  refine ⟨by rw [hl]; exact World.ownsRow_lit (base := w1.heap.size) (e := 3) (size := 1) w1 (intsV (unitR n k)).toArray n (Nat.le_refl _) (by unfold maxLen; omega) (by simp [intsV, hl]), fun g hg => ?_⟩
  have : w1.heap.size = g := by simpa [Value.ownBlock] using hg
  simp; omega
set_option maxHeartbeats 4000000 in
set_option maxRecDepth 100000 in
theorem sims_any (B : Nat) (v : Value) (m : List (List Int)) (i : Int) (w : World) (h : MatB B w v m) (_hB : B ≤ w.heap.size) (hf : RowsFit m) :
    Calls Try.prog 32 #[v, .int .i64 i] w (MakesS w (simR m i)) := by
  have HIS := Lib.hid (fun c (hc : isB m = c) => isc_w B v m c hc w h hf)
  have hlm := hf.1
  obtain ⟨a, cap, rfl⟩ := h.slice
  clear h hf
  unfold maxLen at hlm
  by_cases hI : IsC m
  · have HC := Lib.hid (HIS.out true (isB_yes hI))
    have hn4 := hI.2.2.2
    by_cases hi : 0 ≤ i ∧ i ≤ (m.length : Int) - 1
    · have HV := Lib.hid (simR_yes ⟨hI, hi⟩)
      have HIN := Lib.hid (inB_yes (x := i) (a := 0) (b := (m.length : Int) - 1) hi)
      obtain ⟨k, rfl⟩ := Int.eq_ofNat_of_zero_le hi.1
      have hk : k < m.length := by omega
      rw [HV.out]
      simp only [Int.toNat_natCast]
      clear hI HIS HV hi
      generalize m.length = n at *
      go_enter Try.func32, Try.ntmps32
      go_wp2_with fail
      refine HC.out.mono ?_
      rintro e w1 ⟨rfl, hb⟩
      have HB1 := Lib.hid hb
      clear hb
      go_wp2_with fail
      refine (l1in_c _ _ _ true HIN.out _).mono ?_
      rintro e w' ⟨rfl, rfl⟩
      have hmk := makeInts n (by omega) w1
      have hkz : k < (intsV (zerosR n)).length := by rw [intsV_len]; show k < (List.replicate n (0 : Int)).length; simp; omega
      have hun := (unit_new w1 n k (by omega)).mono HB1.out.size (Nat.le_refl _)
      have hbn : Below w.heap.size w (w1.alloc (.cells ((intsV (zerosR n)).set k (.int .i64 1)).toArray 3)) := HB1.out.alloc HB1.out.size _
      have HST := Lib.hid hun; have HGS := Lib.hid hbn
      clear hun hbn
      go_wp2_with fail
      go_ret
      exact ⟨_, rfl, ⟨HST.out, Nat.le_refl _⟩, HGS.out⟩
    · have HV := Lib.hid (simR_no (m := m) (i := i) (fun h => hi h.2))
      have HIN := Lib.hid (inB_no hi)
      rw [HV.out]
      clear hI HIS HV hi
      generalize m.length = n at *
      go_enter Try.func32, Try.ntmps32
      go_wp2_with fail
      refine HC.out.mono ?_
      rintro e w1 ⟨rfl, hb⟩
      have HB1 := Lib.hid hb
      clear hb
      go_wp2_with fail
      refine (l1in_c _ _ _ false HIN.out _).mono ?_
      rintro e w' ⟨rfl, rfl⟩
      go_wp2_with fail
      go_ret
      exact ⟨_, rfl, ⟨(row_empty w1).mono HB1.out.size (Nat.le_refl _), Nat.le_refl _⟩, HB1.out.alloc HB1.out.size _⟩
  · have HC := Lib.hid (HIS.out false (isB_no hI))
    rw [simR_no (fun h => hI h.1)]
    clear hI HIS
    generalize m.length = n at *
    go_enter Try.func32, Try.ntmps32
    go_wp2_with fail
    refine HC.out.mono ?_
    rintro e w1 ⟨rfl, hb⟩
    have HB1 := Lib.hid hb
    clear hb
    go_wp2_with fail
    go_ret
    exact ⟨_, rfl, ⟨(row_empty w1).mono HB1.out.size (Nat.le_refl _), Nat.le_refl _⟩, HB1.out.alloc HB1.out.size _⟩

end Go.Proofs.Ytlbgblkoddlhnaa
