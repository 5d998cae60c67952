/-
  TypeCartan of the model: what the call returns.
-/
import Derived.Test.YtbmghddmilgngaaEz35
namespace Go.Proofs.Ytbmghddmilgngaa
open Go.RowKit

theorem ba_ne {s : ByteArray} (hs : Fresh shTab s.data.toList) {l : List UInt8} (hl : ¬ Fresh shTab l) : (s.toList == l) = false := by
  rw [beq_eq_false_iff_ne]
  intro e
  rw [ByteArray.toList_eq] at e
  exact hl (e ▸ hs)

set_option maxHeartbeats 2000000 in
set_option maxRecDepth 100000 in
theorem tys_A1 (w : World) :
    Calls Try.prog 97 #[.string ⟨#[65, 49]⟩] w (MakesM2 w (typeM [65, 49]) (.bool true)) := by
  have hc : Calls Try.prog 104 #[.int .i64 1] w (MakesM w (chainL 1)) := chs_any 1 w (by omega)
  have HC := Lib.hid hc; clear hc
  go_enter Try.func97, Try.ntmps97
  go_wp2_with fail
  refine HC.out.mono ?_
  rintro e w1 ⟨x1, rfl, hm1, hb1⟩
  have HB1 := Lib.hid hb1
  have HM1 := Lib.hid hm1.1
  clear hb1 hm1
  have HE : Hid (typeM [65, 49] = (chainL 1)) := Lib.hid (by decide)
  go_wp2_with fail
  go_ret2
  exact ⟨_, rfl, by rw [HE.out]; exact ⟨HM1.out, Nat.le_refl _⟩, HB1.out⟩

set_option maxHeartbeats 2000000 in
set_option maxRecDepth 100000 in
theorem tys_A2 (w : World) :
    Calls Try.prog 97 #[.string ⟨#[65, 50]⟩] w (MakesM2 w (typeM [65, 50]) (.bool true)) := by
  have hc : Calls Try.prog 104 #[.int .i64 2] w (MakesM w (chainL 2)) := chs_any 2 w (by omega)
  have HC := Lib.hid hc; clear hc
  go_enter Try.func97, Try.ntmps97
  go_wp2_with fail
  refine HC.out.mono ?_
  rintro e w1 ⟨x1, rfl, hm1, hb1⟩
  have HB1 := Lib.hid hb1
  have HM1 := Lib.hid hm1.1
  clear hb1 hm1
  have HE : Hid (typeM [65, 50] = (chainL 2)) := Lib.hid (by decide)
  go_wp2_with fail
  go_ret2
  exact ⟨_, rfl, by rw [HE.out]; exact ⟨HM1.out, Nat.le_refl _⟩, HB1.out⟩

set_option maxHeartbeats 2000000 in
set_option maxRecDepth 100000 in
theorem tys_A3 (w : World) :
    Calls Try.prog 97 #[.string ⟨#[65, 51]⟩] w (MakesM2 w (typeM [65, 51]) (.bool true)) := by
  have hc : Calls Try.prog 104 #[.int .i64 3] w (MakesM w (chainL 3)) := chs_any 3 w (by omega)
  have HC := Lib.hid hc; clear hc
  go_enter Try.func97, Try.ntmps97
  go_wp2_with fail
  refine HC.out.mono ?_
  rintro e w1 ⟨x1, rfl, hm1, hb1⟩
  have HB1 := Lib.hid hb1
  have HM1 := Lib.hid hm1.1
  clear hb1 hm1
  have HE : Hid (typeM [65, 51] = (chainL 3)) := Lib.hid (by decide)
  go_wp2_with fail
  go_ret2
  exact ⟨_, rfl, by rw [HE.out]; exact ⟨HM1.out, Nat.le_refl _⟩, HB1.out⟩

set_option maxHeartbeats 2000000 in
set_option maxRecDepth 100000 in
theorem tys_A4 (w : World) :
    Calls Try.prog 97 #[.string ⟨#[65, 52]⟩] w (MakesM2 w (typeM [65, 52]) (.bool true)) := by
  have hc : Calls Try.prog 104 #[.int .i64 4] w (MakesM w (chainL 4)) := chs_any 4 w (by omega)
  have HC := Lib.hid hc; clear hc
  go_enter Try.func97, Try.ntmps97
  go_wp2_with fail
  refine HC.out.mono ?_
  rintro e w1 ⟨x1, rfl, hm1, hb1⟩
  have HB1 := Lib.hid hb1
  have HM1 := Lib.hid hm1.1
  clear hb1 hm1
  have HE : Hid (typeM [65, 52] = (chainL 4)) := Lib.hid (by decide)
  go_wp2_with fail
  go_ret2
  exact ⟨_, rfl, by rw [HE.out]; exact ⟨HM1.out, Nat.le_refl _⟩, HB1.out⟩

set_option maxHeartbeats 2000000 in
set_option maxRecDepth 100000 in
theorem tys_B2 (w : World) :
    Calls Try.prog 97 #[.string ⟨#[66, 50]⟩] w (MakesM2 w (typeM [66, 50]) (.bool true)) := by
  have hc : Calls Try.prog 104 #[.int .i64 2] w (MakesM w (chainL 2)) := chs_any 2 w (by omega)
  have HC := Lib.hid hc; clear hc
  go_enter Try.func97, Try.ntmps97
  go_wp2_with fail
  refine HC.out.mono ?_
  rintro e w1 ⟨x1, rfl, hm1, hb1⟩
  have HB1 := Lib.hid hb1
  have HM1 := Lib.hid hm1.1
  have hc : Calls Try.prog 99 #[x1, .int .i64 0, .int .i64 1, .int .i64 (-1), .int .i64 (-2)] w1 (MakesM w1 (set2 (set2 (chainL 2) 0 1 (-1)) 1 0 (-2))) := sets_any _ x1 _ 0 1 (-1) (-2) w1 hm1.matB hm1.2 (small_of (by decide)) (by unfold Rows0; decide) (by decide) (by decide)
  have HC2 := Lib.hid hc
  clear hc hb1 hm1
  go_wp2_with fail
  refine HC2.out.mono ?_
  rintro e w2 ⟨x2, rfl, hm2, hb2⟩
  have HB2 := Lib.hid (HB1.out.trans (hb2.mono HB1.out.size))
  have HM2 := Lib.hid (hm2.1.mono HB1.out.size (Nat.le_refl _))
  clear hb2 hm2
  have HE : Hid (typeM [66, 50] = (set2 (set2 (chainL 2) 0 1 (-1)) 1 0 (-2))) := Lib.hid (by decide)
  go_wp2_with fail
  go_ret2
  exact ⟨_, rfl, by rw [HE.out]; exact ⟨HM2.out, Nat.le_refl _⟩, HB2.out⟩

set_option maxHeartbeats 2000000 in
set_option maxRecDepth 100000 in
theorem tys_B3 (w : World) :
    Calls Try.prog 97 #[.string ⟨#[66, 51]⟩] w (MakesM2 w (typeM [66, 51]) (.bool true)) := by
  have hc : Calls Try.prog 104 #[.int .i64 3] w (MakesM w (chainL 3)) := chs_any 3 w (by omega)
  have HC := Lib.hid hc; clear hc
  go_enter Try.func97, Try.ntmps97
  go_wp2_with fail
  refine HC.out.mono ?_
  rintro e w1 ⟨x1, rfl, hm1, hb1⟩
  have HB1 := Lib.hid hb1
  have HM1 := Lib.hid hm1.1
  have hc : Calls Try.prog 99 #[x1, .int .i64 1, .int .i64 2, .int .i64 (-1), .int .i64 (-2)] w1 (MakesM w1 (set2 (set2 (chainL 3) 1 2 (-1)) 2 1 (-2))) := sets_any _ x1 _ 1 2 (-1) (-2) w1 hm1.matB hm1.2 (small_of (by decide)) (by unfold Rows0; decide) (by decide) (by decide)
  have HC2 := Lib.hid hc
  clear hc hb1 hm1
  go_wp2_with fail
  refine HC2.out.mono ?_
  rintro e w2 ⟨x2, rfl, hm2, hb2⟩
  have HB2 := Lib.hid (HB1.out.trans (hb2.mono HB1.out.size))
  have HM2 := Lib.hid (hm2.1.mono HB1.out.size (Nat.le_refl _))
  clear hb2 hm2
  have HE : Hid (typeM [66, 51] = (set2 (set2 (chainL 3) 1 2 (-1)) 2 1 (-2))) := Lib.hid (by decide)
  go_wp2_with fail
  go_ret2
  exact ⟨_, rfl, by rw [HE.out]; exact ⟨HM2.out, Nat.le_refl _⟩, HB2.out⟩

set_option maxHeartbeats 2000000 in
set_option maxRecDepth 100000 in
theorem tys_B4 (w : World) :
    Calls Try.prog 97 #[.string ⟨#[66, 52]⟩] w (MakesM2 w (typeM [66, 52]) (.bool true)) := by
  have hc : Calls Try.prog 104 #[.int .i64 4] w (MakesM w (chainL 4)) := chs_any 4 w (by omega)
  have HC := Lib.hid hc; clear hc
  go_enter Try.func97, Try.ntmps97
  go_wp2_with fail
  refine HC.out.mono ?_
  rintro e w1 ⟨x1, rfl, hm1, hb1⟩
  have HB1 := Lib.hid hb1
  have HM1 := Lib.hid hm1.1
  have hc : Calls Try.prog 99 #[x1, .int .i64 2, .int .i64 3, .int .i64 (-1), .int .i64 (-2)] w1 (MakesM w1 (set2 (set2 (chainL 4) 2 3 (-1)) 3 2 (-2))) := sets_any _ x1 _ 2 3 (-1) (-2) w1 hm1.matB hm1.2 (small_of (by decide)) (by unfold Rows0; decide) (by decide) (by decide)
  have HC2 := Lib.hid hc
  clear hc hb1 hm1
  go_wp2_with fail
  refine HC2.out.mono ?_
  rintro e w2 ⟨x2, rfl, hm2, hb2⟩
  have HB2 := Lib.hid (HB1.out.trans (hb2.mono HB1.out.size))
  have HM2 := Lib.hid (hm2.1.mono HB1.out.size (Nat.le_refl _))
  clear hb2 hm2
  have HE : Hid (typeM [66, 52] = (set2 (set2 (chainL 4) 2 3 (-1)) 3 2 (-2))) := Lib.hid (by decide)
  go_wp2_with fail
  go_ret2
  exact ⟨_, rfl, by rw [HE.out]; exact ⟨HM2.out, Nat.le_refl _⟩, HB2.out⟩

set_option maxHeartbeats 2000000 in
set_option maxRecDepth 100000 in
theorem tys_C3 (w : World) :
    Calls Try.prog 97 #[.string ⟨#[67, 51]⟩] w (MakesM2 w (typeM [67, 51]) (.bool true)) := by
  have hc : Calls Try.prog 104 #[.int .i64 3] w (MakesM w (chainL 3)) := chs_any 3 w (by omega)
  have HC := Lib.hid hc; clear hc
  go_enter Try.func97, Try.ntmps97
  go_wp2_with fail
  refine HC.out.mono ?_
  rintro e w1 ⟨x1, rfl, hm1, hb1⟩
  have HB1 := Lib.hid hb1
  have HM1 := Lib.hid hm1.1
  have hc : Calls Try.prog 99 #[x1, .int .i64 1, .int .i64 2, .int .i64 (-2), .int .i64 (-1)] w1 (MakesM w1 (set2 (set2 (chainL 3) 1 2 (-2)) 2 1 (-1))) := sets_any _ x1 _ 1 2 (-2) (-1) w1 hm1.matB hm1.2 (small_of (by decide)) (by unfold Rows0; decide) (by decide) (by decide)
  have HC2 := Lib.hid hc
  clear hc hb1 hm1
  go_wp2_with fail
  refine HC2.out.mono ?_
  rintro e w2 ⟨x2, rfl, hm2, hb2⟩
  have HB2 := Lib.hid (HB1.out.trans (hb2.mono HB1.out.size))
  have HM2 := Lib.hid (hm2.1.mono HB1.out.size (Nat.le_refl _))
  clear hb2 hm2
  have HE : Hid (typeM [67, 51] = (set2 (set2 (chainL 3) 1 2 (-2)) 2 1 (-1))) := Lib.hid (by decide)
  go_wp2_with fail
  go_ret2
  exact ⟨_, rfl, by rw [HE.out]; exact ⟨HM2.out, Nat.le_refl _⟩, HB2.out⟩

set_option maxHeartbeats 2000000 in
set_option maxRecDepth 100000 in
theorem tys_C4 (w : World) :
    Calls Try.prog 97 #[.string ⟨#[67, 52]⟩] w (MakesM2 w (typeM [67, 52]) (.bool true)) := by
  have hc : Calls Try.prog 104 #[.int .i64 4] w (MakesM w (chainL 4)) := chs_any 4 w (by omega)
  have HC := Lib.hid hc; clear hc
  go_enter Try.func97, Try.ntmps97
  go_wp2_with fail
  refine HC.out.mono ?_
  rintro e w1 ⟨x1, rfl, hm1, hb1⟩
  have HB1 := Lib.hid hb1
  have HM1 := Lib.hid hm1.1
  have hc : Calls Try.prog 99 #[x1, .int .i64 2, .int .i64 3, .int .i64 (-2), .int .i64 (-1)] w1 (MakesM w1 (set2 (set2 (chainL 4) 2 3 (-2)) 3 2 (-1))) := sets_any _ x1 _ 2 3 (-2) (-1) w1 hm1.matB hm1.2 (small_of (by decide)) (by unfold Rows0; decide) (by decide) (by decide)
  have HC2 := Lib.hid hc
  clear hc hb1 hm1
  go_wp2_with fail
  refine HC2.out.mono ?_
  rintro e w2 ⟨x2, rfl, hm2, hb2⟩
  have HB2 := Lib.hid (HB1.out.trans (hb2.mono HB1.out.size))
  have HM2 := Lib.hid (hm2.1.mono HB1.out.size (Nat.le_refl _))
  clear hb2 hm2
  have HE : Hid (typeM [67, 52] = (set2 (set2 (chainL 4) 2 3 (-2)) 3 2 (-1))) := Lib.hid (by decide)
  go_wp2_with fail
  go_ret2
  exact ⟨_, rfl, by rw [HE.out]; exact ⟨HM2.out, Nat.le_refl _⟩, HB2.out⟩

set_option maxHeartbeats 2000000 in
set_option maxRecDepth 100000 in
theorem tys_D4 (w : World) :
    Calls Try.prog 97 #[.string ⟨#[68, 52]⟩] w (MakesM2 w (typeM [68, 52]) (.bool true)) := by
  have hc : Calls Try.prog 104 #[.int .i64 4] w (MakesM w (chainL 4)) := chs_any 4 w (by omega)
  have HC := Lib.hid hc; clear hc
  go_enter Try.func97, Try.ntmps97
  go_wp2_with fail
  refine HC.out.mono ?_
  rintro e w1 ⟨x1, rfl, hm1, hb1⟩
  have HB1 := Lib.hid hb1
  have HM1 := Lib.hid hm1.1
  have hc : Calls Try.prog 99 #[x1, .int .i64 2, .int .i64 3, .int .i64 0, .int .i64 0] w1 (MakesM w1 (set2 (set2 (chainL 4) 2 3 0) 3 2 0)) := sets_any _ x1 _ 2 3 0 0 w1 hm1.matB hm1.2 (small_of (by decide)) (by unfold Rows0; decide) (by decide) (by decide)
  have HC2 := Lib.hid hc
  clear hc hb1 hm1
  go_wp2_with fail
  refine HC2.out.mono ?_
  rintro e w2 ⟨x2, rfl, hm2, hb2⟩
  have HB2 := Lib.hid (HB1.out.trans (hb2.mono HB1.out.size))
  have HM2 := Lib.hid (hm2.1.mono HB1.out.size (Nat.le_refl _))
  have hc : Calls Try.prog 99 #[x2, .int .i64 1, .int .i64 3, .int .i64 (-1), .int .i64 (-1)] w2 (MakesM w2 (set2 (set2 (set2 (set2 (chainL 4) 2 3 0) 3 2 0) 1 3 (-1)) 3 1 (-1))) := sets_any _ x2 _ 1 3 (-1) (-1) w2 hm2.matB hm2.2 (small_of (by decide)) (by unfold Rows0; decide) (by decide) (by decide)
  have HC3 := Lib.hid hc
  clear hc hb2 hm2
  go_wp2_with fail
  refine HC3.out.mono ?_
  rintro e w3 ⟨x3, rfl, hm3, hb3⟩
  have HB3 := Lib.hid (HB2.out.trans (hb3.mono HB2.out.size))
  have HM3 := Lib.hid (hm3.1.mono HB2.out.size (Nat.le_refl _))
  clear hb3 hm3
  have HE : Hid (typeM [68, 52] = (set2 (set2 (set2 (set2 (chainL 4) 2 3 0) 3 2 0) 1 3 (-1)) 3 1 (-1))) := Lib.hid (by decide)
  go_wp2_with fail
  go_ret2
  exact ⟨_, rfl, by rw [HE.out]; exact ⟨HM3.out, Nat.le_refl _⟩, HB3.out⟩

set_option maxHeartbeats 2000000 in
set_option maxRecDepth 100000 in
theorem tys_F4 (w : World) :
    Calls Try.prog 97 #[.string ⟨#[70, 52]⟩] w (MakesM2 w (typeM [70, 52]) (.bool true)) := by
  have hc : Calls Try.prog 104 #[.int .i64 4] w (MakesM w (chainL 4)) := chs_any 4 w (by omega)
  have HC := Lib.hid hc; clear hc
  go_enter Try.func97, Try.ntmps97
  go_wp2_with fail
  refine HC.out.mono ?_
  rintro e w1 ⟨x1, rfl, hm1, hb1⟩
  have HB1 := Lib.hid hb1
  have HM1 := Lib.hid hm1.1
  have hc : Calls Try.prog 99 #[x1, .int .i64 1, .int .i64 2, .int .i64 (-1), .int .i64 (-2)] w1 (MakesM w1 (set2 (set2 (chainL 4) 1 2 (-1)) 2 1 (-2))) := sets_any _ x1 _ 1 2 (-1) (-2) w1 hm1.matB hm1.2 (small_of (by decide)) (by unfold Rows0; decide) (by decide) (by decide)
  have HC2 := Lib.hid hc
  clear hc hb1 hm1
  go_wp2_with fail
  refine HC2.out.mono ?_
  rintro e w2 ⟨x2, rfl, hm2, hb2⟩
  have HB2 := Lib.hid (HB1.out.trans (hb2.mono HB1.out.size))
  have HM2 := Lib.hid (hm2.1.mono HB1.out.size (Nat.le_refl _))
  clear hb2 hm2
  have HE : Hid (typeM [70, 52] = (set2 (set2 (chainL 4) 1 2 (-1)) 2 1 (-2))) := Lib.hid (by decide)
  go_wp2_with fail
  go_ret2
  exact ⟨_, rfl, by rw [HE.out]; exact ⟨HM2.out, Nat.le_refl _⟩, HB2.out⟩

set_option maxHeartbeats 2000000 in
set_option maxRecDepth 100000 in
theorem tys_G2 (w : World) :
    Calls Try.prog 97 #[.string ⟨#[71, 50]⟩] w (MakesM2 w (typeM [71, 50]) (.bool true)) := by
  have hc : Calls Try.prog 104 #[.int .i64 2] w (MakesM w (chainL 2)) := chs_any 2 w (by omega)
  have HC := Lib.hid hc; clear hc
  go_enter Try.func97, Try.ntmps97
  go_wp2_with fail
  refine HC.out.mono ?_
  rintro e w1 ⟨x1, rfl, hm1, hb1⟩
  have HB1 := Lib.hid hb1
  have HM1 := Lib.hid hm1.1
  have hc : Calls Try.prog 99 #[x1, .int .i64 0, .int .i64 1, .int .i64 (-1), .int .i64 (-3)] w1 (MakesM w1 (set2 (set2 (chainL 2) 0 1 (-1)) 1 0 (-3))) := sets_any _ x1 _ 0 1 (-1) (-3) w1 hm1.matB hm1.2 (small_of (by decide)) (by unfold Rows0; decide) (by decide) (by decide)
  have HC2 := Lib.hid hc
  clear hc hb1 hm1
  go_wp2_with fail
  refine HC2.out.mono ?_
  rintro e w2 ⟨x2, rfl, hm2, hb2⟩
  have HB2 := Lib.hid (HB1.out.trans (hb2.mono HB1.out.size))
  have HM2 := Lib.hid (hm2.1.mono HB1.out.size (Nat.le_refl _))
  clear hb2 hm2
  have HE : Hid (typeM [71, 50] = (set2 (set2 (chainL 2) 0 1 (-1)) 1 0 (-3))) := Lib.hid (by decide)
  go_wp2_with fail
  go_ret2
  exact ⟨_, rfl, by rw [HE.out]; exact ⟨HM2.out, Nat.le_refl _⟩, HB2.out⟩

set_option maxHeartbeats 2000000 in
set_option maxRecDepth 100000 in
theorem tys_A1t (w : World) :
    Calls Try.prog 97 #[.string ⟨#[65, 49, 126]⟩] w (MakesM2 w (typeM [65, 49, 126]) (.bool true)) := by
  have hc : Calls Try.prog 104 #[.int .i64 2] w (MakesM w (chainL 2)) := chs_any 2 w (by omega)
  have HC := Lib.hid hc; clear hc
  go_enter Try.func97, Try.ntmps97
  go_wp2_with fail
  refine HC.out.mono ?_
  rintro e w1 ⟨x1, rfl, hm1, hb1⟩
  have HB1 := Lib.hid hb1
  have HM1 := Lib.hid hm1.1
  have hc : Calls Try.prog 99 #[x1, .int .i64 0, .int .i64 1, .int .i64 (-2), .int .i64 (-2)] w1 (MakesM w1 (set2 (set2 (chainL 2) 0 1 (-2)) 1 0 (-2))) := sets_any _ x1 _ 0 1 (-2) (-2) w1 hm1.matB hm1.2 (small_of (by decide)) (by unfold Rows0; decide) (by decide) (by decide)
  have HC2 := Lib.hid hc
  clear hc hb1 hm1
  go_wp2_with fail
  refine HC2.out.mono ?_
  rintro e w2 ⟨x2, rfl, hm2, hb2⟩
  have HB2 := Lib.hid (HB1.out.trans (hb2.mono HB1.out.size))
  have HM2 := Lib.hid (hm2.1.mono HB1.out.size (Nat.le_refl _))
  clear hb2 hm2
  have HE : Hid (typeM [65, 49, 126] = (set2 (set2 (chainL 2) 0 1 (-2)) 1 0 (-2))) := Lib.hid (by decide)
  go_wp2_with fail
  go_ret2
  exact ⟨_, rfl, by rw [HE.out]; exact ⟨HM2.out, Nat.le_refl _⟩, HB2.out⟩

set_option maxHeartbeats 2000000 in
set_option maxRecDepth 100000 in
theorem tys_A2t (w : World) :
    Calls Try.prog 97 #[.string ⟨#[65, 50, 126]⟩] w (MakesM2 w (typeM [65, 50, 126]) (.bool true)) := by
  have hc : Calls Try.prog 104 #[.int .i64 3] w (MakesM w (chainL 3)) := chs_any 3 w (by omega)
  have HC := Lib.hid hc; clear hc
  go_enter Try.func97, Try.ntmps97
  go_wp2_with fail
  refine HC.out.mono ?_
  rintro e w1 ⟨x1, rfl, hm1, hb1⟩
  have HB1 := Lib.hid hb1
  have HM1 := Lib.hid hm1.1
  have hc : Calls Try.prog 99 #[x1, .int .i64 0, .int .i64 2, .int .i64 (-1), .int .i64 (-1)] w1 (MakesM w1 (set2 (set2 (chainL 3) 0 2 (-1)) 2 0 (-1))) := sets_any _ x1 _ 0 2 (-1) (-1) w1 hm1.matB hm1.2 (small_of (by decide)) (by unfold Rows0; decide) (by decide) (by decide)
  have HC2 := Lib.hid hc
  clear hc hb1 hm1
  go_wp2_with fail
  refine HC2.out.mono ?_
  rintro e w2 ⟨x2, rfl, hm2, hb2⟩
  have HB2 := Lib.hid (HB1.out.trans (hb2.mono HB1.out.size))
  have HM2 := Lib.hid (hm2.1.mono HB1.out.size (Nat.le_refl _))
  clear hb2 hm2
  have HE : Hid (typeM [65, 50, 126] = (set2 (set2 (chainL 3) 0 2 (-1)) 2 0 (-1))) := Lib.hid (by decide)
  go_wp2_with fail
  go_ret2
  exact ⟨_, rfl, by rw [HE.out]; exact ⟨HM2.out, Nat.le_refl _⟩, HB2.out⟩

set_option maxHeartbeats 2000000 in
set_option maxRecDepth 100000 in
theorem tys_A3t (w : World) :
    Calls Try.prog 97 #[.string ⟨#[65, 51, 126]⟩] w (MakesM2 w (typeM [65, 51, 126]) (.bool true)) := by
  have hc : Calls Try.prog 104 #[.int .i64 4] w (MakesM w (chainL 4)) := chs_any 4 w (by omega)
  have HC := Lib.hid hc; clear hc
  go_enter Try.func97, Try.ntmps97
  go_wp2_with fail
  refine HC.out.mono ?_
  rintro e w1 ⟨x1, rfl, hm1, hb1⟩
  have HB1 := Lib.hid hb1
  have HM1 := Lib.hid hm1.1
  have hc : Calls Try.prog 99 #[x1, .int .i64 0, .int .i64 3, .int .i64 (-1), .int .i64 (-1)] w1 (MakesM w1 (set2 (set2 (chainL 4) 0 3 (-1)) 3 0 (-1))) := sets_any _ x1 _ 0 3 (-1) (-1) w1 hm1.matB hm1.2 (small_of (by decide)) (by unfold Rows0; decide) (by decide) (by decide)
  have HC2 := Lib.hid hc
  clear hc hb1 hm1
  go_wp2_with fail
  refine HC2.out.mono ?_
  rintro e w2 ⟨x2, rfl, hm2, hb2⟩
  have HB2 := Lib.hid (HB1.out.trans (hb2.mono HB1.out.size))
  have HM2 := Lib.hid (hm2.1.mono HB1.out.size (Nat.le_refl _))
  clear hb2 hm2
  have HE : Hid (typeM [65, 51, 126] = (set2 (set2 (chainL 4) 0 3 (-1)) 3 0 (-1))) := Lib.hid (by decide)
  go_wp2_with fail
  go_ret2
  exact ⟨_, rfl, by rw [HE.out]; exact ⟨HM2.out, Nat.le_refl _⟩, HB2.out⟩

set_option maxHeartbeats 2000000 in
set_option maxRecDepth 100000 in
theorem tys_C2t (w : World) :
    Calls Try.prog 97 #[.string ⟨#[67, 50, 126]⟩] w (MakesM2 w (typeM [67, 50, 126]) (.bool true)) := by
  have hc : Calls Try.prog 104 #[.int .i64 3] w (MakesM w (chainL 3)) := chs_any 3 w (by omega)
  have HC := Lib.hid hc; clear hc
  go_enter Try.func97, Try.ntmps97
  go_wp2_with fail
  refine HC.out.mono ?_
  rintro e w1 ⟨x1, rfl, hm1, hb1⟩
  have HB1 := Lib.hid hb1
  have HM1 := Lib.hid hm1.1
  have hc : Calls Try.prog 99 #[x1, .int .i64 0, .int .i64 1, .int .i64 (-1), .int .i64 (-2)] w1 (MakesM w1 (set2 (set2 (chainL 3) 0 1 (-1)) 1 0 (-2))) := sets_any _ x1 _ 0 1 (-1) (-2) w1 hm1.matB hm1.2 (small_of (by decide)) (by unfold Rows0; decide) (by decide) (by decide)
  have HC2 := Lib.hid hc
  clear hc hb1 hm1
  go_wp2_with fail
  refine HC2.out.mono ?_
  rintro e w2 ⟨x2, rfl, hm2, hb2⟩
  have HB2 := Lib.hid (HB1.out.trans (hb2.mono HB1.out.size))
  have HM2 := Lib.hid (hm2.1.mono HB1.out.size (Nat.le_refl _))
  have hc : Calls Try.prog 99 #[x2, .int .i64 1, .int .i64 2, .int .i64 (-2), .int .i64 (-1)] w2 (MakesM w2 (set2 (set2 (set2 (set2 (chainL 3) 0 1 (-1)) 1 0 (-2)) 1 2 (-2)) 2 1 (-1))) := sets_any _ x2 _ 1 2 (-2) (-1) w2 hm2.matB hm2.2 (small_of (by decide)) (by unfold Rows0; decide) (by decide) (by decide)
  have HC3 := Lib.hid hc
  clear hc hb2 hm2
  go_wp2_with fail
  refine HC3.out.mono ?_
  rintro e w3 ⟨x3, rfl, hm3, hb3⟩
  have HB3 := Lib.hid (HB2.out.trans (hb3.mono HB2.out.size))
  have HM3 := Lib.hid (hm3.1.mono HB2.out.size (Nat.le_refl _))
  clear hb3 hm3
  have HE : Hid (typeM [67, 50, 126] = (set2 (set2 (set2 (set2 (chainL 3) 0 1 (-1)) 1 0 (-2)) 1 2 (-2)) 2 1 (-1))) := Lib.hid (by decide)
  go_wp2_with fail
  go_ret2
  exact ⟨_, rfl, by rw [HE.out]; exact ⟨HM3.out, Nat.le_refl _⟩, HB3.out⟩

set_option maxHeartbeats 2000000 in
set_option maxRecDepth 100000 in
theorem tys_G2t (w : World) :
    Calls Try.prog 97 #[.string ⟨#[71, 50, 126]⟩] w (MakesM2 w (typeM [71, 50, 126]) (.bool true)) := by
  have hc : Calls Try.prog 104 #[.int .i64 3] w (MakesM w (chainL 3)) := chs_any 3 w (by omega)
  have HC := Lib.hid hc; clear hc
  go_enter Try.func97, Try.ntmps97
  go_wp2_with fail
  refine HC.out.mono ?_
  rintro e w1 ⟨x1, rfl, hm1, hb1⟩
  have HB1 := Lib.hid hb1
  have HM1 := Lib.hid hm1.1
  have hc : Calls Try.prog 99 #[x1, .int .i64 1, .int .i64 2, .int .i64 (-1), .int .i64 (-3)] w1 (MakesM w1 (set2 (set2 (chainL 3) 1 2 (-1)) 2 1 (-3))) := sets_any _ x1 _ 1 2 (-1) (-3) w1 hm1.matB hm1.2 (small_of (by decide)) (by unfold Rows0; decide) (by decide) (by decide)
  have HC2 := Lib.hid hc
  clear hc hb1 hm1
  go_wp2_with fail
  refine HC2.out.mono ?_
  rintro e w2 ⟨x2, rfl, hm2, hb2⟩
  have HB2 := Lib.hid (HB1.out.trans (hb2.mono HB1.out.size))
  have HM2 := Lib.hid (hm2.1.mono HB1.out.size (Nat.le_refl _))
  clear hb2 hm2
  have HE : Hid (typeM [71, 50, 126] = (set2 (set2 (chainL 3) 1 2 (-1)) 2 1 (-3))) := Lib.hid (by decide)
  go_wp2_with fail
  go_ret2
  exact ⟨_, rfl, by rw [HE.out]; exact ⟨HM2.out, Nat.le_refl _⟩, HB2.out⟩

set_option maxHeartbeats 2000000 in
set_option maxRecDepth 100000 in
theorem tys_miss (s : ByteArray) (w : World) (hs : Fresh shTab s.data.toList) :
    Calls Try.prog 97 #[.string s] w (MakesM2 w [] (.bool false)) := by
  have g0 := ba_ne hs (l := [65, 49]) (by decide)
  have g1 := ba_ne hs (l := [65, 50]) (by decide)
  have g2 := ba_ne hs (l := [65, 51]) (by decide)
  have g3 := ba_ne hs (l := [65, 52]) (by decide)
  have g4 := ba_ne hs (l := [66, 50]) (by decide)
  have g5 := ba_ne hs (l := [66, 51]) (by decide)
  have g6 := ba_ne hs (l := [66, 52]) (by decide)
  have g7 := ba_ne hs (l := [67, 51]) (by decide)
  have g8 := ba_ne hs (l := [67, 52]) (by decide)
  have g9 := ba_ne hs (l := [68, 52]) (by decide)
  have g10 := ba_ne hs (l := [70, 52]) (by decide)
  have g11 := ba_ne hs (l := [71, 50]) (by decide)
  have g12 := ba_ne hs (l := [65, 49, 126]) (by decide)
  have g13 := ba_ne hs (l := [65, 50, 126]) (by decide)
  have g14 := ba_ne hs (l := [65, 51, 126]) (by decide)
  have g15 := ba_ne hs (l := [67, 50, 126]) (by decide)
  have g16 := ba_ne hs (l := [71, 50, 126]) (by decide)
  clear hs
  go_enter Try.func97, Try.ntmps97
  go_wp2_with fail
  go_ret2
  exact ⟨_, rfl, ⟨mat_empty w, Nat.le_refl _⟩, (Below.refl _ _).alloc (Nat.le_refl _) _⟩
theorem tys_any (s : ByteArray) (w : World) :
    Calls Try.prog 97 #[.string s] w (MakesM2 w (typeM s.data.toList) (.bool (typeB s.data.toList))) := by
  by_cases h : Fresh shTab s.data.toList
  · unfold typeM typeB
    rw [typeAt_fresh h]
    exact tys_miss s w h
  · have : ∃ p ∈ shTab, p.1 = s.data.toList := by
      refine Classical.byContradiction fun hn => h fun p hp e => hn ⟨p, hp, e⟩
    obtain ⟨p, hp, he⟩ := this
    have hs := ba_of he.symm
    have hb : typeB p.1 = true := by
      obtain ⟨i, hi, rfl⟩ := List.getElem_of_mem hp
      unfold typeB
      rw [(sh_facts i hi).2.2.2.2]
      rfl
    rw [← he, hb]
    subst hs
    clear he hb h
    simp only [shTab, List.mem_cons, List.not_mem_nil, or_false] at hp
    rcases hp with rfl | rfl | rfl | rfl | rfl | rfl | rfl | rfl | rfl | rfl | rfl | rfl | rfl | rfl | rfl | rfl | rfl
    · exact tys_A1 w
    · exact tys_A2 w
    · exact tys_A3 w
    · exact tys_A4 w
    · exact tys_B2 w
    · exact tys_B3 w
    · exact tys_B4 w
    · exact tys_C3 w
    · exact tys_C4 w
    · exact tys_D4 w
    · exact tys_F4 w
    · exact tys_G2 w
    · exact tys_A1t w
    · exact tys_A2t w
    · exact tys_A3t w
    · exact tys_C2t w
    · exact tys_G2t w
end Go.Proofs.Ytbmghddmilgngaa
