/-
  The draws of FnCartans.
-/
import Derived.Test.YtppimgkampkfjaaGreatDoorFcg29
import Derived.Test.YtppimgkampkfjaaGreatDoorFcg36
import Derived.Test.YtppimgkampkfjaaGreatDoorFcg30
namespace Go.Proofs.YtppimgkampkfjaaGreatDoor
open Go.RowKit

def tyL : List (List UInt8) := [[65, 49], [65, 50], [65, 51], [65, 52], [65, 53], [66, 50], [66, 51], [66, 52], [67, 50], [67, 51], [67, 52], [68, 52], [70, 52], [71, 50], [65, 49, 126], [65, 50, 126], [65, 51, 126], [67, 50, 126], [71, 50, 126], [], [66, 49], [97, 50]]
def pcTL : List (List UInt8) := [[], [50], [51], [50, 44, 45, 49], [50, 44, 45, 49, 59, 45, 49], [50, 44, 45, 49, 59, 45, 49, 44, 50], [50, 44, 48, 59, 45, 49, 44, 50], [50, 44, 32, 45, 49, 59, 45, 49, 44, 50], [50, 44, 45, 52, 59, 45, 49, 44, 50]]
theorem ty_short : ∀ l ∈ tyL, l.length ≤ 3 := by decide
theorem pct_short : ∀ l ∈ pcTL, l.length ≤ 20 := by decide
def DrawnS (w : World) (e : Ending) (w' : World) : Prop := ∃ s : ByteArray, s.size ≤ 2000 ∧ e = .returned (.string s) ∧ Below w.heap.size w w'
theorem fit_two (m : List (List Int)) (h : AnyM m) : Small m := h.small
set_option maxHeartbeats 2000000 in
set_option maxRecDepth 100000 in
theorem drawFmt_any (B : Nat) (w : World) (cv : Value) (len : Nat) (hl : len ≤ 1048576) (hc : CodeB B w cv len) (hB : B ≤ w.heap.size) :
    Calls Tryz.prog 7 #[cv] w (DrawnM w) := by
  have HN := Lib.hid (new_any B w cv len hl hB hc)
  clear hc
  go_enter Tryz.func7, Tryz.ntmps7
  go_wp2_with fail
  refine HN.out.mono ?_
  rintro e w1 ⟨rfl, hd, hg⟩
  have HG := Lib.hid hg
  have hs1 := hg.size
  have hC1 := hd.lt
  have HA := Lib.hid (any_any B w.heap.size w1 cv len hd)
  clear hd hg HN
  go_wp2_with fail
  refine HA.out.mono ?_
  rintro e w2 ⟨x, m, rfl, hd2, hx, hm⟩
  have HB := Lib.hid (draw_below HG.out hd2)
  have HX := Lib.hid hx
  have HM := Lib.hid hm
  clear hd2 hx hm
  go_wp2_with fail
  go_ret
  exact ⟨x, m, rfl, HB.out, HX.out.wide (by omega), HM.out⟩
set_option maxHeartbeats 2000000 in
set_option maxRecDepth 100000 in
theorem drawTy_any (B : Nat) (w : World) (cv : Value) (len : Nat) (hl : len ≤ 1048576) (hc : CodeB B w cv len) (hB : B ≤ w.heap.size) :
    Calls Tryz.prog 21 #[cv] w (DrawnS w) := by
  have HN := Lib.hid (new_any B w cv len hl hB hc)
  clear hc
  go_enter Tryz.func21, Tryz.ntmps21
  go_wp2_with fail
  refine HN.out.mono ?_
  rintro e w1 ⟨rfl, hd, hg⟩
  have HG := Lib.hid hg
  have hs1 := hg.size
  have hC1 := hd.lt
  have HGL := Lib.hid (show (w1.alloc (.cells (strsD tyL).toArray 9)).heap[w1.heap.size]? = some (.cells (strsD tyL).toArray 9 (0, 0)) from (MapKept.heap_alloc w1 _).1)
  have HD0 := Lib.hid (hd.alloc (.cells (strsD tyL).toArray 9))
  have hg0 : w1.grownBy (w1.alloc (.cells (strsD tyL).toArray 9)) (some w.heap.size) := World.grownBy_alloc _ _ _
  have HG0 := Lib.hid hg0
  have hlit : (strsD tyL).toArray = #[.string ⟨#[65, 49]⟩, .string ⟨#[65, 50]⟩, .string ⟨#[65, 51]⟩, .string ⟨#[65, 52]⟩, .string ⟨#[65, 53]⟩, .string ⟨#[66, 50]⟩, .string ⟨#[66, 51]⟩, .string ⟨#[66, 52]⟩, .string ⟨#[67, 50]⟩, .string ⟨#[67, 51]⟩, .string ⟨#[67, 52]⟩, .string ⟨#[68, 52]⟩, .string ⟨#[70, 52]⟩, .string ⟨#[71, 50]⟩, .string ⟨#[65, 49, 126]⟩, .string ⟨#[65, 50, 126]⟩, .string ⟨#[65, 51, 126]⟩, .string ⟨#[67, 50, 126]⟩, .string ⟨#[71, 50, 126]⟩, .string ⟨#[]⟩, .string ⟨#[66, 49]⟩, .string ⟨#[97, 50]⟩] := rfl
  rw [hlit] at HD0 HG0
  have HLI := Lib.hid hlit
  clear hg0 hlit
  clear hd hg HN
  go_wp2_with fail
  refine (picks_any B w.heap.size _ cv len w1.heap.size tyL 22 rfl (by omega) (by omega) (by first | exact HGL.out | (rw [← HLI.out]; exact HGL.out)) (by omega) HD0.out).mono ?_
  rintro e w2 ⟨l, hl2, rfl, hd2⟩
  have HL2 := Lib.hid (ty_short l hl2)
  have HW2 := Lib.hid (show DrTo B w.heap.size cv len w1 w2 from ⟨hd2.1, HG0.out.trans hd2.2⟩)
  clear hl2 hd2 HG0 HD0 HGL HLI
  go_wp2_with fail
  go_ret
  exact ⟨_, by have := HL2.out; show (Array.size _) ≤ _; simp; omega, rfl, draw_below HG.out HW2.out⟩
set_option maxHeartbeats 2000000 in
set_option maxRecDepth 100000 in
theorem drawJo_any (B : Nat) (w : World) (cv : Value) (len : Nat) (hl : len ≤ 1048576) (hc : CodeB B w cv len) (hB : B ≤ w.heap.size) :
    Calls Tryz.prog 25 #[cv] w (DrawnMM w) := by
  have HN := Lib.hid (new_any B w cv len hl hB hc)
  clear hc
  go_enter Tryz.func25, Tryz.ntmps25
  go_wp2_with fail
  refine HN.out.mono ?_
  rintro e w1 ⟨rfl, hd, hg⟩
  have HG := Lib.hid hg
  have hs1 := hg.size
  have hC1 := hd.lt
  have HA := Lib.hid (any_any B w.heap.size w1 cv len hd)
  clear hd hg HN
  go_wp2_with fail
  refine HA.out.mono ?_
  rintro e w2 ⟨x, a, rfl, hd2, hx, ha⟩
  have HD2 := Lib.hid hd2
  have HX := Lib.hid hx
  have HAM := Lib.hid ha
  have hs2 := hd2.2.size
  clear hd2 hx ha HA
  have HA := Lib.hid (any_any B w.heap.size w2 cv len HD2.out.1)
  go_wp2_with fail
  refine HA.out.mono ?_
  rintro e w3 ⟨y, b, rfl, hd3, hy, hb⟩
  have HD3 := Lib.hid (HD2.out.trans hd3)
  have HX3 := Lib.hid (HX.out.on hd3.2 hC1)
  have HY := Lib.hid hy
  have HBM := Lib.hid hb
  have hs3 := hd3.2.size
  clear hd3 hy hb HA HX HD2
  go_wp2_with fail
  refine (once_any B w.heap.size _ cv len 2 (by omega) (by omega) HD3.out.1).mono ?_
  rintro e w4 ⟨q, rfl, hd4⟩
  have HD4 := Lib.hid (HD3.out.trans hd4)
  have HX4 := Lib.hid (HX3.out.on hd4.2 hC1)
  have HY4 := Lib.hid (HY.out.on hd4.2 (by omega))
  have hs4 := hd4.2.size
  clear hd4 HX3 HD3 HY
  cases q with
  | false =>
    go_wp2_with fail
    go_ret2
    exact ⟨x, y, a, b, rfl, draw_below HG.out HD4.out, HX4.out.wide (by omega), HAM.out, HY4.out.wide (by omega), HBM.out⟩
  | true =>
    have HTY := Lib.hid (tys_any ⟨#[65, 49]⟩ w4)
    have HA1 := Lib.hid (sq_any (isC_sq (isD_isC a1_ok.1)))
    have hl1 : (⟨#[65, 49]⟩ : ByteArray).data.toList = [65, 49] := rfl
    rw [hl1] at HTY
    clear hl1
    generalize typeM [65, 49] = m1 at *
    generalize typeB [65, 49] = t1 at *
    go_wp2_with fail
    refine HTY.out.mono ?_
    rintro e w5 ⟨z, rfl, hz, hb5⟩
    have HZ := Lib.hid hz
    have HX5 := Lib.hid (HX4.out.up hb5)
    have HB5 := Lib.hid ((draw_below HG.out HD4.out).trans (hb5.mono (by omega)))
    clear hz hb5
    go_wp2_with fail
    go_ret2
    exact ⟨x, z, a, m1, rfl, HB5.out, HX5.out.wide (by omega), HAM.out, HZ.out.ownK.wide (by omega), HA1.out⟩
set_option maxHeartbeats 2000000 in
set_option maxRecDepth 100000 in
theorem drawEq_any (B : Nat) (w : World) (cv : Value) (len : Nat) (hl : len ≤ 1048576) (hc : CodeB B w cv len) (hB : B ≤ w.heap.size) :
    Calls Tryz.prog 28 #[cv] w (DrawnMM w) := by
  have HN := Lib.hid (new_any B w cv len hl hB hc)
  clear hc
  go_enter Tryz.func28, Tryz.ntmps28
  go_wp2_with fail
  refine HN.out.mono ?_
  rintro e w1 ⟨rfl, hd, hg⟩
  have HG := Lib.hid hg
  have hs1 := hg.size
  have hC1 := hd.lt
  have HA := Lib.hid (any_any B w.heap.size w1 cv len hd)
  clear hd hg HN
  go_wp2_with fail
  refine HA.out.mono ?_
  rintro e w2 ⟨x, a, rfl, hd2, hx, ha⟩
  have HD2 := Lib.hid hd2
  have HX := Lib.hid hx
  have HAM := Lib.hid ha
  have hs2 := hd2.2.size
  clear hd2 hx ha HA
  go_wp2_with fail
  refine (once_any B w.heap.size _ cv len 2 (by omega) (by omega) HD2.out.1).mono ?_
  rintro e w3 ⟨q, rfl, hd3⟩
  have HD3 := Lib.hid (HD2.out.trans hd3)
  have HX3 := Lib.hid (HX.out.on hd3.2 hC1)
  have hs3 := hd3.2.size
  clear hd3 HX HD2
  cases q with
  | false =>
    have HA := Lib.hid (any_any B w.heap.size w3 cv len HD3.out.1)
    go_wp2_with fail
    refine HA.out.mono ?_
    rintro e w4 ⟨y, b, rfl, hd4, hy, hb⟩
    have HD4 := Lib.hid (HD3.out.trans hd4)
    have HX4 := Lib.hid (HX3.out.on hd4.2 hC1)
    have HY := Lib.hid hy; have HBM := Lib.hid hb
    clear hd4 hy hb
    go_wp2_with fail
    go_ret2
    exact ⟨x, y, a, b, rfl, draw_below HG.out HD4.out, HX4.out.wide (by omega), HAM.out, HY.out.wide (by omega), HBM.out⟩
  | true =>
    have HC := Lib.hid (cpa_any _ x a w3 HX3.out.mat (Nat.le_refl _) HAM.out.small)
    go_wp2_with fail
    refine HC.out.mono ?_
    rintro e w4 ⟨z, rfl, hz, hb4⟩
    have HZ := Lib.hid hz
    have HX4 := Lib.hid (HX3.out.up hb4)
    have HB4 := Lib.hid ((draw_below HG.out HD3.out).trans (hb4.mono (by omega)))
    clear hz hb4
    go_wp2_with fail
    go_ret2
    exact ⟨x, z, a, a, rfl, HB4.out, HX4.out.wide (by omega), HAM.out, HZ.out.ownK.wide (by omega), HAM.out⟩
theorem fmtM_short (m : List (List Int)) : (fmtM m).length ≤ 1000 := by
  by_cases hI : IsC m
  · rw [fmtM_yes hI]; exact fmtT_len hI
  · rw [fmtM_no hI]; simp
set_option maxHeartbeats 2000000 in
set_option maxRecDepth 100000 in
theorem drawPc_any (B : Nat) (w : World) (cv : Value) (len : Nat) (hl : len ≤ 1048576) (hc : CodeB B w cv len) (hB : B ≤ w.heap.size) :
    Calls Tryz.prog 16 #[cv] w (DrawnS w) := by
  have HN := Lib.hid (new_any B w cv len hl hB hc)
  clear hc
  go_enter Tryz.func16, Tryz.ntmps16
  go_wp2_with fail
  refine HN.out.mono ?_
  rintro e w1 ⟨rfl, hd, hg⟩
  have HG := Lib.hid hg
  have hs1 := hg.size
  have hC1 := hd.lt
  have HA := Lib.hid (any_any B w.heap.size w1 cv len hd)
  clear hd hg HN
  go_wp2_with fail
  refine HA.out.mono ?_
  rintro e w2 ⟨x, a, rfl, hd2, hx, ha⟩
  have HD2 := Lib.hid hd2
  have HX := Lib.hid hx
  have HAM := Lib.hid ha
  have hs2 := hd2.2.size
  clear hd2 hx ha HA
  obtain ⟨s, hs⟩ : ∃ s : ByteArray, s = ⟨(fmtM a).toArray⟩ := ⟨_, rfl⟩
  have hss : s.size ≤ 1000 := by rw [hs]; show (Array.size _) ≤ _; simpa using fmtM_short a
  have HFM := Lib.hid (fms_any _ x a w2 HX.out.mat (Nat.le_refl _) HAM.out.fit)
  rw [← hs] at HFM
  clear hs
  go_wp2_with fail
  refine HFM.out.mono ?_
  rintro e w3 ⟨rfl, hb3⟩
  have HD3 := Lib.hid (HD2.out.trans (DrTo.of_below HD2.out.1 hb3))
  have hs3 := hb3.size
  have HBE := Lib.hid (below_any B w.heap.size w3 cv len 4 (by omega) (by omega) HD3.out.1)
  clear hb3 HFM HD2 HX
  go_wp2_with fail
  refine HBE.out.mono ?_
  rintro e w4 ⟨r, hr, rfl, hd4⟩
  have HD4 := Lib.hid (HD3.out.trans hd4)
  have hs4 := hd4.2.size
  clear hd4 HD3 HBE
  rcases (show r = 0 ∨ r = 1 ∨ 2 ≤ r by omega) with rfl | rfl | hr2
  · have HSP := Lib.hid (spoil_any B w.heap.size w4 cv len s s.size rfl (by omega) HD4.out.1)
    go_wp2_with fail
    refine HSP.out.mono ?_
    rintro e w5 ⟨t, ht, rfl, hd5⟩
    have HD5 := Lib.hid (HD4.out.trans hd5)
    clear hd5 HSP
    go_wp2_with fail
    go_ret
    exact ⟨t, by omega, rfl, draw_below HG.out HD5.out⟩
  · have HD4c := Lib.hid HD4.out.1
    have HGL := Lib.hid (show (w4.alloc (.cells (strsD pcTL).toArray 9)).heap[w4.heap.size]? = some (.cells (strsD pcTL).toArray 9 (0, 0)) from (MapKept.heap_alloc w4 _).1)
    have HD0 := Lib.hid (HD4c.out.alloc (.cells (strsD pcTL).toArray 9))
    have hg0 : w4.grownBy (w4.alloc (.cells (strsD pcTL).toArray 9)) (some w.heap.size) := World.grownBy_alloc _ _ _
    have HG0 := Lib.hid hg0
    have hlit : (strsD pcTL).toArray = #[.string ⟨#[]⟩, .string ⟨#[50]⟩, .string ⟨#[51]⟩, .string ⟨#[50, 44, 45, 49]⟩, .string ⟨#[50, 44, 45, 49, 59, 45, 49]⟩, .string ⟨#[50, 44, 45, 49, 59, 45, 49, 44, 50]⟩, .string ⟨#[50, 44, 48, 59, 45, 49, 44, 50]⟩, .string ⟨#[50, 44, 32, 45, 49, 59, 45, 49, 44, 50]⟩, .string ⟨#[50, 44, 45, 52, 59, 45, 49, 44, 50]⟩] := rfl
    rw [hlit] at HD0 HG0
    have HLI := Lib.hid hlit
    clear hg0 hlit
    go_wp2_with fail
    refine (picks_any B w.heap.size _ cv len w4.heap.size pcTL 9 rfl (by omega) (by omega) (by first | exact HGL.out | (rw [← HLI.out]; exact HGL.out)) (by omega) HD0.out).mono ?_
    rintro e w5 ⟨l, hl2, rfl, hd5⟩
    have HL2 := Lib.hid (pct_short l hl2)
    have HD5 := Lib.hid (HD4.out.trans ⟨hd5.1, HG0.out.trans hd5.2⟩)
    clear hl2 hd5 HG0 HD0 HGL HLI
    go_wp2_with fail
    go_ret
    exact ⟨_, by have := HL2.out; show (Array.size _) ≤ _; simp; omega, rfl, draw_below HG.out HD5.out⟩
  · have hr0 : ((r : Int) == 0) = false := by rw [beq_eq_false_iff_ne]; omega
    have hr1 : ((r : Int) == 1) = false := by rw [beq_eq_false_iff_ne]; omega
    go_wp2_with fail
    go_ret
    exact ⟨s, by omega, rfl, draw_below HG.out HD4.out⟩
end Go.Proofs.YtppimgkampkfjaaGreatDoor
