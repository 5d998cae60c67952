/-
  Weights and roots: what the program's ReflectWeight and ReflectRoot return (printed by mk_ri.py).
-/
import Derived.Test.YtlbgblkoddlhnaaRiB
import Derived.Test.YtlbgblkoddlhnaaWtC
import Derived.Test.YtlbgblkoddlhnaaTrI
namespace Go.Proofs.Ytlbgblkoddlhnaa
open Go.RowKit

set_option maxHeartbeats 4000000 in
set_option maxRecDepth 100000 in
theorem refoW_any (B B' : Nat) (v v' : Value) (m : List (List Int)) (l : List Int) (i : Int) (w : World) (h : MatB B w v m) (h' : RowB B' w v' l) (hB : B ≤ w.heap.size) (hB' : B' ≤ w.heap.size) (hf : RowsFit m) (hl : l.length ≤ 1048576) :
    Calls Try.prog 49 #[v, .int .i64 i, v', .func (.func 50) #[] #[]] w (MakesS w (refwL m i l)) := by
  have HCL := Lib.hid (cloi_any B' v' l w h' hB' hl)
  have HIS := Lib.hid (fun c (hc : isB m = c) (wx : World) (hb : Below w.heap.size w wx) => icm_0 B v m c hc wx (h.below hb hB) hf)
  have HRP := Lib.hid (fun (x : Value) (k : Nat) (wx : World) (hb : Below w.heap.size w wx) (hx : RowI w.heap.size wx.heap.size wx x l) (hI : IsC m) (hll : l.length = m.length) (hk : k < m.length) => rip_any w.heap.size B v x m l k wx (h.below hb hB) hx hB hI.1 hll hk (by have := hI.2.2.2; omega))
  obtain ⟨a, cap, rfl⟩ := h.slice
  obtain ⟨a', cap', rfl⟩ := h'.slice
  have hlm := hf.1
  unfold maxLen at hlm
  have HPT := Lib.hid (fun (c : Bool) (hc : ptB i m.length = c) (wx : World) => pt_c a m.length cap i c hc wx (by omega))
  clear h h' hf
  go_enter Try.func49, Try.ntmps49
  go_wp2_with fail
  refine HCL.out.mono ?_
  rintro e w1 ⟨x, rfl, ⟨hx, _⟩, hb⟩
  have HX := Lib.hid hx
  have HB := Lib.hid hb
  clear hx hb HCL
  by_cases hI : IsC m
  · have HC := Lib.hid (HIS.out true (isB_yes hI) w1 HB.out)
    by_cases hll : l.length = m.length
    · have heq : ((l.length : Int) == (m.length : Int)) = true := by rw [beq_iff_eq]; omega
      by_cases hi : 0 ≤ i ∧ i ≤ (m.length : Int) - 1
      · have HV := Lib.hid (refwL_yes (m := m) (i := i) (l := l) ⟨hI, hll, hi⟩)
        have HP := Lib.hid (HPT.out true (ptB_yes hi))
        obtain ⟨k, rfl⟩ := Int.eq_ofNat_of_zero_le hi.1
        have HRP2 := Lib.hid (fun (q : Nat) => HRP.out x k (w1.drewN q) (HB.out.trans ((below_drewN q).mono HB.out.size)) (HX.out.step (below_drewN q)) hI hll (by omega))
        simp only [Int.toNat_natCast] at HV
        clear HRP HPT HIS hI hi hll
        generalize reflL m k l = R at *
        generalize m.length = n at *
        generalize l.length = n' at *
        go_wp2_with fail
        refine HC.out.mono ?_
        rintro e w2 ⟨rfl, q, rfl⟩
        go_wp2_with fail
        refine (HP.out _).mono ?_
        rintro e w3 ⟨rfl, rfl⟩
        go_wp2_with fail
        refine (HRP2.out q).mono ?_
        rintro e w4 ⟨rfl, h1, h2, h3⟩
        have HR := Lib.hid h1
        have HB4 := Lib.hid (show Below w.heap.size w w4 from (HB.out.trans ((below_drewN q).mono HB.out.size)).grown h2 (by have := HB.out.size; simpa using this) (fun j hj => (HX.out.1.lt j hj).1))
        clear h1 h2 h3 HRP2 HX
        go_wp2_with fail
        go_ret
        exact ⟨_, rfl, ⟨by rw [HV.out]; exact HR.out, Nat.le_refl _⟩, HB4.out⟩
      · have HV := Lib.hid (refwL_no (m := m) (i := i) (l := l) (fun h => hi h.2.2))
        have HP := Lib.hid (HPT.out false (ptB_no hi))
        clear HRP HPT HIS hI hi hll
        generalize m.length = n at *
        generalize l.length = n' at *
        go_wp2_with fail
        refine HC.out.mono ?_
        rintro e w2 ⟨rfl, q, rfl⟩
        go_wp2_with fail
        refine (HP.out _).mono ?_
        rintro e w3 ⟨rfl, rfl⟩
        go_wp2_with fail
        go_ret
        exact ⟨_, rfl, ⟨by rw [HV.out]; exact HX.out.step (below_drewN q), Nat.le_refl _⟩, HB.out.trans ((below_drewN q).mono HB.out.size)⟩
    · have heq : ((l.length : Int) == (m.length : Int)) = false := by rw [beq_eq_false_iff_ne]; omega
      have HV := Lib.hid (refwL_no (m := m) (i := i) (l := l) (fun h => hll h.2.1))
      clear HRP HPT HIS hI hll
      generalize m.length = n at *
      generalize l.length = n' at *
      go_wp2_with fail
      refine HC.out.mono ?_
      rintro e w2 ⟨rfl, q, rfl⟩
      go_wp2_with fail
      go_ret
      exact ⟨_, rfl, ⟨by rw [HV.out]; exact HX.out.step (below_drewN q), Nat.le_refl _⟩, HB.out.trans ((below_drewN q).mono HB.out.size)⟩
  · have HC := Lib.hid (HIS.out false (isB_no hI) w1 HB.out)
    have HV := Lib.hid (refwL_no (m := m) (i := i) (l := l) (fun h => hI h.1))
    clear HRP HPT HIS hI
    generalize m.length = n at *
    generalize l.length = n' at *
    go_wp2_with fail
    refine HC.out.mono ?_
    rintro e w2 ⟨rfl, q, rfl⟩
    go_wp2_with fail
    go_ret
    exact ⟨_, rfl, ⟨by rw [HV.out]; exact HX.out.step (below_drewN q), Nat.le_refl _⟩, HB.out.trans ((below_drewN q).mono HB.out.size)⟩

/-! ### Lists filled from the front -/
set_option maxHeartbeats 1000000 in
set_option maxRecDepth 100000 in
theorem refi_any (B B' : Nat) (v v' : Value) (m : List (List Int)) (l : List Int) (i : Int) (w : World) (h : MatB B w v m) (h' : RowB B' w v' l) (hB : B ≤ w.heap.size) (hB' : B' ≤ w.heap.size) (hf : RowsFit m) (hl : l.length ≤ 1048576) :
    Calls Try.prog 18 #[v, .int .i64 i, v'] w (MakesS w (refwL m i l)) := by
  have HO := Lib.hid (refoW_any B B' v v' m l i w h h' hB hB' hf hl)
  clear h h' hf
  go_enter Try.func18, Try.ntmps18
  go_wp2_with fail
  refine HO.out.mono ?_
  rintro e w1 ⟨x, rfl, hx, hb⟩
  have HX := Lib.hid hx; have HB := Lib.hid hb
  clear hx hb
  go_wp2_with fail
  go_ret
  exact ⟨_, rfl, HX.out, HB.out⟩
set_option maxHeartbeats 4000000 in
set_option maxRecDepth 100000 in
theorem refoR_any (B B' : Nat) (v v' : Value) (m : List (List Int)) (l : List Int) (i : Int) (w : World) (h : MatB B w v m) (h' : RowB B' w v' l) (hB : B ≤ w.heap.size) (hB' : B' ≤ w.heap.size) (hf : RowsFit m) (hl : l.length ≤ 1048576) :
    Calls Try.prog 49 #[v, .int .i64 i, v', .func (.func 56) #[] #[]] w (MakesS w (refR m i l)) := by
  have HCL := Lib.hid (cloi_any B' v' l w h' hB' hl)
  have HIS := Lib.hid (fun c (hc : isB m = c) (wx : World) (hb : Below w.heap.size w wx) => icm_0 B v m c hc wx (h.below hb hB) hf)
  have HRP := Lib.hid (fun (x : Value) (k : Nat) (wx : World) (hb : Below w.heap.size w wx) (hx : RowI w.heap.size wx.heap.size wx x l) (hI : IsC m) (hll : l.length = m.length) (hk : k < m.length) => rrp_any w.heap.size B v x m l k wx (h.below hb hB) hx hB hI.1 hll hk (by have := hI.2.2.2; omega))
  obtain ⟨a, cap, rfl⟩ := h.slice
  obtain ⟨a', cap', rfl⟩ := h'.slice
  have hlm := hf.1
  unfold maxLen at hlm
  have HPT := Lib.hid (fun (c : Bool) (hc : ptB i m.length = c) (wx : World) => pt_c a m.length cap i c hc wx (by omega))
  clear h h' hf
  go_enter Try.func49, Try.ntmps49
  go_wp2_with fail
  refine HCL.out.mono ?_
  rintro e w1 ⟨x, rfl, ⟨hx, _⟩, hb⟩
  have HX := Lib.hid hx
  have HB := Lib.hid hb
  clear hx hb HCL
  by_cases hI : IsC m
  · have HC := Lib.hid (HIS.out true (isB_yes hI) w1 HB.out)
    by_cases hll : l.length = m.length
    · have heq : ((l.length : Int) == (m.length : Int)) = true := by rw [beq_iff_eq]; omega
      by_cases hi : 0 ≤ i ∧ i ≤ (m.length : Int) - 1
      · have HV := Lib.hid (refR_yes (m := m) (i := i) (l := l) ⟨hI, hll, hi⟩)
        have HP := Lib.hid (HPT.out true (ptB_yes hi))
        obtain ⟨k, rfl⟩ := Int.eq_ofNat_of_zero_le hi.1
        have HRP2 := Lib.hid (fun (q : Nat) => HRP.out x k (w1.drewN q) (HB.out.trans ((below_drewN q).mono HB.out.size)) (HX.out.step (below_drewN q)) hI hll (by omega))
        simp only [Int.toNat_natCast] at HV
        clear HRP HPT HIS hI hi hll
        generalize rflR m k l = R at *
        generalize m.length = n at *
        generalize l.length = n' at *
        go_wp2_with fail
        refine HC.out.mono ?_
        rintro e w2 ⟨rfl, q, rfl⟩
        go_wp2_with fail
        refine (HP.out _).mono ?_
        rintro e w3 ⟨rfl, rfl⟩
        go_wp2_with fail
        refine (HRP2.out q).mono ?_
        rintro e w4 ⟨rfl, h1, h2, h3⟩
        have HR := Lib.hid h1
        have HB4 := Lib.hid (show Below w.heap.size w w4 from (HB.out.trans ((below_drewN q).mono HB.out.size)).grown h2 (by have := HB.out.size; simpa using this) (fun j hj => (HX.out.1.lt j hj).1))
        clear h1 h2 h3 HRP2 HX
        go_wp2_with fail
        go_ret
        exact ⟨_, rfl, ⟨by rw [HV.out]; exact HR.out, Nat.le_refl _⟩, HB4.out⟩
      · have HV := Lib.hid (refR_no (m := m) (i := i) (l := l) (fun h => hi h.2.2))
        have HP := Lib.hid (HPT.out false (ptB_no hi))
        clear HRP HPT HIS hI hi hll
        generalize m.length = n at *
        generalize l.length = n' at *
        go_wp2_with fail
        refine HC.out.mono ?_
        rintro e w2 ⟨rfl, q, rfl⟩
        go_wp2_with fail
        refine (HP.out _).mono ?_
        rintro e w3 ⟨rfl, rfl⟩
        go_wp2_with fail
        go_ret
        exact ⟨_, rfl, ⟨by rw [HV.out]; exact HX.out.step (below_drewN q), Nat.le_refl _⟩, HB.out.trans ((below_drewN q).mono HB.out.size)⟩
    · have heq : ((l.length : Int) == (m.length : Int)) = false := by rw [beq_eq_false_iff_ne]; omega
      have HV := Lib.hid (refR_no (m := m) (i := i) (l := l) (fun h => hll h.2.1))
      clear HRP HPT HIS hI hll
      generalize m.length = n at *
      generalize l.length = n' at *
      go_wp2_with fail
      refine HC.out.mono ?_
      rintro e w2 ⟨rfl, q, rfl⟩
      go_wp2_with fail
      go_ret
      exact ⟨_, rfl, ⟨by rw [HV.out]; exact HX.out.step (below_drewN q), Nat.le_refl _⟩, HB.out.trans ((below_drewN q).mono HB.out.size)⟩
  · have HC := Lib.hid (HIS.out false (isB_no hI) w1 HB.out)
    have HV := Lib.hid (refR_no (m := m) (i := i) (l := l) (fun h => hI h.1))
    clear HRP HPT HIS hI
    generalize m.length = n at *
    generalize l.length = n' at *
    go_wp2_with fail
    refine HC.out.mono ?_
    rintro e w2 ⟨rfl, q, rfl⟩
    go_wp2_with fail
    go_ret
    exact ⟨_, rfl, ⟨by rw [HV.out]; exact HX.out.step (below_drewN q), Nat.le_refl _⟩, HB.out.trans ((below_drewN q).mono HB.out.size)⟩

/-! ### Lists filled from the front -/
set_option maxHeartbeats 1000000 in
set_option maxRecDepth 100000 in
theorem refri_any (B B' : Nat) (v v' : Value) (m : List (List Int)) (l : List Int) (i : Int) (w : World) (h : MatB B w v m) (h' : RowB B' w v' l) (hB : B ≤ w.heap.size) (hB' : B' ≤ w.heap.size) (hf : RowsFit m) (hl : l.length ≤ 1048576) :
    Calls Try.prog 29 #[v, .int .i64 i, v'] w (MakesS w (refR m i l)) := by
  have HO := Lib.hid (refoR_any B B' v v' m l i w h h' hB hB' hf hl)
  clear h h' hf
  go_enter Try.func29, Try.ntmps29
  go_wp2_with fail
  refine HO.out.mono ?_
  rintro e w1 ⟨x, rfl, hx, hb⟩
  have HX := Lib.hid hx; have HB := Lib.hid hb
  clear hx hb
  go_wp2_with fail
  go_ret
  exact ⟨_, rfl, HX.out, HB.out⟩
end Go.Proofs.Ytlbgblkoddlhnaa
