/-
  A copy of a matrix whose rows may be empty.
  The draws of FnCartans.
  Words: what the functions of chapter 5 answer (no walk here).
-/
import Derived.Test.YtcmnkhblnlmfpaaGreatDoorFC19
import Derived.Test.YtcmnkhblnlmfpaaGreatDoorFC38
import Derived.Test.YtcmnkhblnlmfpaaGreatDoorFC31
import Derived.Test.YtcmnkhblnlmfpaaGreatDoorFC33
import Derived.Test.YtcmnkhblnlmfpaaGreatDoorFC02
namespace Go.Proofs.YtcmnkhblnlmfpaaGreatDoor
open Go.RowKit

set_option maxHeartbeats 2000000 in
set_option maxRecDepth 100000 in
theorem cpa_any (B : Nat) (v : Value) (m : List (List Int)) (w : World) (h : MatB B w v m) (hB : B ≤ w.heap.size) (hs : Small m) :
    Calls Tryz.prog 93 #[v] w (MakesM w m) := by
  obtain ⟨a, cap, rfl⟩ := h.slice
  have HR := Lib.hid h; clear h
  have hl := hs.1
  have HSM := Lib.hid hs; clear hs
  have HALL := Lib.hid (List.take_length (l := m))
  have HSN := Lib.hid (take_snocL m)
  generalize hn : m.length = n at *
  have HN := Lib.hid hn; clear hn
  go_enter Tryz.func93, Tryz.ntmps93
  go_wp2_with fail
  go_loopw [3, 4] (fun o i wr => ∃ (k : Nat) (wq : World), wq = wr ∧ k ≤ n ∧ i = .int .i64 k ∧ MatI w.heap.size wq.heap.size wq o (m.take k) ∧ Below w.heap.size w wq) (fun _ i _ => n - (intOf i).toNat)
  case atStart => exact ⟨0, _, rfl, Nat.zero_le _, rfl, mat_empty w, (Below.refl _ _).alloc (Nat.le_refl _) _⟩
  case round =>
    obtain ⟨k, wq, rfl, hk, rfl, hM, hb⟩ := hrel
    have HM := Lib.hid hM; clear hM
    have HB := Lib.hid hb
    have hsq := hb.size
    clear hb
    by_cases hlt : k < n
    · have hkl : k < m.length := by rw [HN.out]; exact hlt
      obtain ⟨b, off, ra, rcap, rfl, hbB, hcell, hrow⟩ := (HR.out.below HB.out hB).rowAt hlt hkl
      have hTK := HSN.out k hlt
      have hlk : (m.take k).length ≤ 1048576 := by rw [List.length_take]; omega
      have hrl : (m.getD k []).length ≤ 1048576 := by rw [getD_row m k hkl]; exact HSM.out.2 k hkl
      generalize m.getD k [] = r at *
      have HTK := Lib.hid hTK
      have HLK := Lib.hid hlk
      have hrow1 : RowB B (wq.alloc (.cells #[] 3)) (.slice ra r.length rcap) r := hrow.below ((Below.refl w.heap.size wq).alloc hsq _) hB
      have HROW1 := Lib.hid hrow1
      have hq1 : wq.heap.size ≤ (wq.alloc (.cells #[] 3)).heap.size := by simp
      have hcell' : (wq.alloc (.cells #[] 3)).cell? ⟨b, off + k, none⟩ = some (.slice ra r.length rcap) := by
        rw [World.cell?_alloc_past _ _ _ (by show b < _; omega)]; exact hcell
      clear hTK hlk hrow1 hrow
      generalize hrn : r.length = rn at *
      have HRN := Lib.hid hrn; clear hrn
      have hlen2 : ([] : List Int).length + r.length ≤ 4194304 := by rw [HRN.out]; simp; omega
      have HLEN2 := Lib.hid hlen2
      clear hlen2 hrl
      go_wp2_with (at_builtin; go_must (refine append_intsA (row_empty wq) hq1 HROW1.out HLEN2.out rfl rfl rfl rfl ?_))
      intro v3 w3 hr3 hb3 hz3
      have hr3 : RowI wq.heap.size w3.heap.size w3 v3 r := by simpa using hr3
      have hb3' := hb3 wq wq.heap.size (Nat.le_refl _) ((Below.refl _ _).alloc (Nat.le_refl _) _)
      have HB3 := Lib.hid hb3'
      have hs3 := hb3'.size
      obtain ⟨xa, xn, xc, rfl⟩ := hr3.slice3
      have HR3 := Lib.hid hr3
      have HM3 := Lib.hid ((HM.out.same (SameIn.of_below hb3' (Nat.le_refl _))))
      clear hb3 hz3 hr3 hb3' hcell hcell'
      go_wp2_with (at_builtin; go_must (refine append_row HM3.out HR3.out hsq hs3 rfl rfl rfl rfl HLK.out ?_))
      intro v5 w5 hm5 hb5 hz5
      have hm6 : MatI w.heap.size w5.heap.size w5 v5 (m.take (k + 1)) := by rw [← HTK.out]; exact hm5
      have HM5 := Lib.hid hm6
      have HB5 := Lib.hid (hb5 w w.heap.size (Nat.le_refl _) (HB.out.trans (HB3.out.mono hsq)))
      clear hb5 hz5 hm5 hm6
      go_wp2_with fail
      exact ⟨⟨k + 1, _, rfl, by omega, by go_num, HM5.out, HB5.out⟩, by simp [intOf]; omega⟩
    · obtain rfl : k = n := by omega
      go_wp2_with fail
      go_ret
      have hM := HM.out
      rw [HALL.out] at hM
      exact ⟨_, rfl, ⟨hM, Nat.le_refl _⟩, HB.out⟩
end Go.Proofs.YtcmnkhblnlmfpaaGreatDoor
namespace Go.Proofs.YtcmnkhblnlmfpaaGreatDoor
open Go.RowKit

def tyL : List (List UInt8) := [[65, 49], [65, 50], [65, 51], [65, 52], [65, 53], [66, 50], [66, 51], [66, 52], [67, 50], [67, 51], [67, 52], [68, 52], [70, 52], [71, 50], [65, 49, 126], [65, 50, 126], [65, 51, 126], [67, 50, 126], [71, 50, 126], [], [66, 49], [97, 50]]
def pcTL : List (List UInt8) := [[], [50], [51], [50, 44, 45, 49], [50, 44, 45, 49, 59, 45, 49], [50, 44, 45, 49, 59, 45, 49, 44, 50], [50, 44, 48, 59, 45, 49, 44, 50], [50, 44, 32, 45, 49, 59, 45, 49, 44, 50], [50, 44, 45, 52, 59, 45, 49, 44, 50]]
theorem ty_short : ∀ l ∈ tyL, l.length ≤ 3 := by decide
theorem pct_short : ∀ l ∈ pcTL, l.length ≤ 20 := by decide
def DrawnS (w : World) (e : Ending) (w' : World) : Prop := ∃ s : ByteArray, s.size ≤ 2000 ∧ e = .returned (.string s) ∧ Below w.heap.size w w'
theorem fit_two (m : List (List Int)) (h : AnyM m) : Small m := h.small
set_option maxHeartbeats 2000000 in
set_option maxRecDepth 100000 in
theorem drawFmt_any (B : Nat) (w : World) (cv : Value) (len : Nat) (hl : len ≤ 1048576) (hc : CodeB B w cv len) (hB : B ≤ w.heap.size) :
    Calls Tryz.prog 32 #[cv] w (DrawnM w) := by
  have HN := Lib.hid (new_any B w cv len hl hB hc)
  clear hc
  go_enter Tryz.func32, Tryz.ntmps32
  go_wp2_with fail
  refine HN.out.mono ?_
  rintro e w1 ⟨rfl, hd, hg⟩
  have HG := Lib.hid hg
  have hs1 := hg.size
  have hC1 := hd.lt
  have HA := Lib.hid (any_any B w.heap.size w1 cv len hd)
  clear hd hg HN
  go_wp2_with fail
  refine HA.out.mono ?_
  rintro e w2 ⟨x, m, rfl, hd2, hx, hm⟩
  have HB := Lib.hid (draw_below HG.out hd2)
  have HX := Lib.hid hx
  have HM := Lib.hid hm
  clear hd2 hx hm
  go_wp2_with fail
  go_ret
  exact ⟨x, m, rfl, HB.out, HX.out.wide (by omega), HM.out⟩
set_option maxHeartbeats 2000000 in
set_option maxRecDepth 100000 in
theorem drawTy_any (B : Nat) (w : World) (cv : Value) (len : Nat) (hl : len ≤ 1048576) (hc : CodeB B w cv len) (hB : B ≤ w.heap.size) :
    Calls Tryz.prog 44 #[cv] w (DrawnS w) := by
  have HN := Lib.hid (new_any B w cv len hl hB hc)
  clear hc
  go_enter Tryz.func44, Tryz.ntmps44
  go_wp2_with fail
  refine HN.out.mono ?_
  rintro e w1 ⟨rfl, hd, hg⟩
  have HG := Lib.hid hg
  have hs1 := hg.size
  have hC1 := hd.lt
  have HGL := Lib.hid (show (w1.alloc (.cells (strsD tyL).toArray 9)).heap[w1.heap.size]? = some (.cells (strsD tyL).toArray 9 (0, 0)) from (MapKept.heap_alloc w1 _).1)
  have HD0 := Lib.hid (hd.alloc (.cells (strsD tyL).toArray 9))
  have hg0 : w1.grownBy (w1.alloc (.cells (strsD tyL).toArray 9)) (some w.heap.size) := World.grownBy_alloc _ _ _
  have HG0 := Lib.hid hg0
  have hlit : (strsD tyL).toArray = #[.string ⟨#[65, 49]⟩, .string ⟨#[65, 50]⟩, .string ⟨#[65, 51]⟩, .string ⟨#[65, 52]⟩, .string ⟨#[65, 53]⟩, .string ⟨#[66, 50]⟩, .string ⟨#[66, 51]⟩, .string ⟨#[66, 52]⟩, .string ⟨#[67, 50]⟩, .string ⟨#[67, 51]⟩, .string ⟨#[67, 52]⟩, .string ⟨#[68, 52]⟩, .string ⟨#[70, 52]⟩, .string ⟨#[71, 50]⟩, .string ⟨#[65, 49, 126]⟩, .string ⟨#[65, 50, 126]⟩, .string ⟨#[65, 51, 126]⟩, .string ⟨#[67, 50, 126]⟩, .string ⟨#[71, 50, 126]⟩, .string ⟨#[]⟩, .string ⟨#[66, 49]⟩, .string ⟨#[97, 50]⟩] := rfl
  rw [hlit] at HD0 HG0
  have HLI := Lib.hid hlit
  clear hg0 hlit
  clear hd hg HN
  go_wp2_with fail
  refine (picks_any B w.heap.size _ cv len w1.heap.size tyL 22 rfl (by omega) (by omega) (by first | exact HGL.out | (rw [← HLI.out]; exact HGL.out)) (by omega) HD0.out).mono ?_
  rintro e w2 ⟨l, hl2, rfl, hd2⟩
  have HL2 := Lib.hid (ty_short l hl2)
  have HW2 := Lib.hid (show DrTo B w.heap.size cv len w1 w2 from ⟨hd2.1, HG0.out.trans hd2.2⟩)
  clear hl2 hd2 HG0 HD0 HGL HLI
  go_wp2_with fail
  go_ret
  exact ⟨_, by have := HL2.out; show (Array.size _) ≤ _; simp; omega, rfl, draw_below HG.out HW2.out⟩
set_option maxHeartbeats 2000000 in
set_option maxRecDepth 100000 in
theorem drawJo_any (B : Nat) (w : World) (cv : Value) (len : Nat) (hl : len ≤ 1048576) (hc : CodeB B w cv len) (hB : B ≤ w.heap.size) :
    Calls Tryz.prog 48 #[cv] w (DrawnMM w) := by
  have HN := Lib.hid (new_any B w cv len hl hB hc)
  clear hc
  go_enter Tryz.func48, Tryz.ntmps48
  go_wp2_with fail
  refine HN.out.mono ?_
  rintro e w1 ⟨rfl, hd, hg⟩
  have HG := Lib.hid hg
  have hs1 := hg.size
  have hC1 := hd.lt
  have HA := Lib.hid (any_any B w.heap.size w1 cv len hd)
  clear hd hg HN
  go_wp2_with fail
  refine HA.out.mono ?_
  rintro e w2 ⟨x, a, rfl, hd2, hx, ha⟩
  have HD2 := Lib.hid hd2
  have HX := Lib.hid hx
  have HAM := Lib.hid ha
  have hs2 := hd2.2.size
  clear hd2 hx ha HA
  have HA := Lib.hid (any_any B w.heap.size w2 cv len HD2.out.1)
  go_wp2_with fail
  refine HA.out.mono ?_
  rintro e w3 ⟨y, b, rfl, hd3, hy, hb⟩
  have HD3 := Lib.hid (HD2.out.trans hd3)
  have HX3 := Lib.hid (HX.out.on hd3.2 hC1)
  have HY := Lib.hid hy
  have HBM := Lib.hid hb
  have hs3 := hd3.2.size
  clear hd3 hy hb HA HX HD2
  go_wp2_with fail
  refine (once_any B w.heap.size _ cv len 2 (by omega) (by omega) HD3.out.1).mono ?_
  rintro e w4 ⟨q, rfl, hd4⟩
  have HD4 := Lib.hid (HD3.out.trans hd4)
  have HX4 := Lib.hid (HX3.out.on hd4.2 hC1)
  have HY4 := Lib.hid (HY.out.on hd4.2 (by omega))
  have hs4 := hd4.2.size
  clear hd4 HX3 HD3 HY
  cases q with
  | false =>
    go_wp2_with fail
    go_ret2
    exact ⟨x, y, a, b, rfl, draw_below HG.out HD4.out, HX4.out.wide (by omega), HAM.out, HY4.out.wide (by omega), HBM.out⟩
  | true =>
    have HTY := Lib.hid (tys_any ⟨#[65, 49]⟩ w4)
    have HA1 := Lib.hid (sq_any (isC_sq (isD_isC a1_ok.1)))
    have hl1 : (⟨#[65, 49]⟩ : ByteArray).data.toList = [65, 49] := rfl
    rw [hl1] at HTY
    clear hl1
    generalize typeM [65, 49] = m1 at *
    generalize typeB [65, 49] = t1 at *
    go_wp2_with fail
    refine HTY.out.mono ?_
    rintro e w5 ⟨z, rfl, hz, hb5⟩
    have HZ := Lib.hid hz
    have HX5 := Lib.hid (HX4.out.up hb5)
    have HB5 := Lib.hid ((draw_below HG.out HD4.out).trans (hb5.mono (by omega)))
    clear hz hb5
    go_wp2_with fail
    go_ret2
    exact ⟨x, z, a, m1, rfl, HB5.out, HX5.out.wide (by omega), HAM.out, HZ.out.ownK.wide (by omega), HA1.out⟩
set_option maxHeartbeats 2000000 in
set_option maxRecDepth 100000 in
theorem drawEq_any (B : Nat) (w : World) (cv : Value) (len : Nat) (hl : len ≤ 1048576) (hc : CodeB B w cv len) (hB : B ≤ w.heap.size) :
    Calls Tryz.prog 51 #[cv] w (DrawnMM w) := by
  have HN := Lib.hid (new_any B w cv len hl hB hc)
  clear hc
  go_enter Tryz.func51, Tryz.ntmps51
  go_wp2_with fail
  refine HN.out.mono ?_
  rintro e w1 ⟨rfl, hd, hg⟩
  have HG := Lib.hid hg
  have hs1 := hg.size
  have hC1 := hd.lt
  have HA := Lib.hid (any_any B w.heap.size w1 cv len hd)
  clear hd hg HN
  go_wp2_with fail
  refine HA.out.mono ?_
  rintro e w2 ⟨x, a, rfl, hd2, hx, ha⟩
  have HD2 := Lib.hid hd2
  have HX := Lib.hid hx
  have HAM := Lib.hid ha
  have hs2 := hd2.2.size
  clear hd2 hx ha HA
  go_wp2_with fail
  refine (once_any B w.heap.size _ cv len 2 (by omega) (by omega) HD2.out.1).mono ?_
  rintro e w3 ⟨q, rfl, hd3⟩
  have HD3 := Lib.hid (HD2.out.trans hd3)
  have HX3 := Lib.hid (HX.out.on hd3.2 hC1)
  have hs3 := hd3.2.size
  clear hd3 HX HD2
  cases q with
  | false =>
    have HA := Lib.hid (any_any B w.heap.size w3 cv len HD3.out.1)
    go_wp2_with fail
    refine HA.out.mono ?_
    rintro e w4 ⟨y, b, rfl, hd4, hy, hb⟩
    have HD4 := Lib.hid (HD3.out.trans hd4)
    have HX4 := Lib.hid (HX3.out.on hd4.2 hC1)
    have HY := Lib.hid hy; have HBM := Lib.hid hb
    clear hd4 hy hb
    go_wp2_with fail
    go_ret2
    exact ⟨x, y, a, b, rfl, draw_below HG.out HD4.out, HX4.out.wide (by omega), HAM.out, HY.out.wide (by omega), HBM.out⟩
  | true =>
    have HC := Lib.hid (cpa_any _ x a w3 HX3.out.mat (Nat.le_refl _) HAM.out.small)
    go_wp2_with fail
    refine HC.out.mono ?_
    rintro e w4 ⟨z, rfl, hz, hb4⟩
    have HZ := Lib.hid hz
    have HX4 := Lib.hid (HX3.out.up hb4)
    have HB4 := Lib.hid ((draw_below HG.out HD3.out).trans (hb4.mono (by omega)))
    clear hz hb4
    go_wp2_with fail
    go_ret2
    exact ⟨x, z, a, a, rfl, HB4.out, HX4.out.wide (by omega), HAM.out, HZ.out.ownK.wide (by omega), HAM.out⟩
theorem fmtM_short (m : List (List Int)) : (fmtM m).length ≤ 1000 := by
  by_cases hI : IsC m
  · rw [fmtM_yes hI]; exact fmtT_len hI
  · rw [fmtM_no hI]; simp
set_option maxHeartbeats 2000000 in
set_option maxRecDepth 100000 in
theorem drawPc_any (B : Nat) (w : World) (cv : Value) (len : Nat) (hl : len ≤ 1048576) (hc : CodeB B w cv len) (hB : B ≤ w.heap.size) :
    Calls Tryz.prog 40 #[cv] w (DrawnS w) := by
  have HN := Lib.hid (new_any B w cv len hl hB hc)
  clear hc
  go_enter Tryz.func40, Tryz.ntmps40
  go_wp2_with fail
  refine HN.out.mono ?_
  rintro e w1 ⟨rfl, hd, hg⟩
  have HG := Lib.hid hg
  have hs1 := hg.size
  have hC1 := hd.lt
  have HA := Lib.hid (any_any B w.heap.size w1 cv len hd)
  clear hd hg HN
  go_wp2_with fail
  refine HA.out.mono ?_
  rintro e w2 ⟨x, a, rfl, hd2, hx, ha⟩
  have HD2 := Lib.hid hd2
  have HX := Lib.hid hx
  have HAM := Lib.hid ha
  have hs2 := hd2.2.size
  clear hd2 hx ha HA
  obtain ⟨s, hs⟩ : ∃ s : ByteArray, s = ⟨(fmtM a).toArray⟩ := ⟨_, rfl⟩
  have hss : s.size ≤ 1000 := by rw [hs]; show (Array.size _) ≤ _; simpa using fmtM_short a
  have HFM := Lib.hid (fms_any _ x a w2 HX.out.mat (Nat.le_refl _) HAM.out.fit)
  rw [← hs] at HFM
  clear hs
  go_wp2_with fail
  refine HFM.out.mono ?_
  rintro e w3 ⟨rfl, hb3⟩
  have HD3 := Lib.hid (HD2.out.trans (DrTo.of_below HD2.out.1 hb3))
  have hs3 := hb3.size
  have HBE := Lib.hid (below_any B w.heap.size w3 cv len 4 (by omega) (by omega) HD3.out.1)
  clear hb3 HFM HD2 HX
  go_wp2_with fail
  refine HBE.out.mono ?_
  rintro e w4 ⟨r, hr, rfl, hd4⟩
  have HD4 := Lib.hid (HD3.out.trans hd4)
  have hs4 := hd4.2.size
  clear hd4 HD3 HBE
  rcases (show r = 0 ∨ r = 1 ∨ 2 ≤ r by omega) with rfl | rfl | hr2
  · have HSP := Lib.hid (spoil_any B w.heap.size w4 cv len s s.size rfl (by omega) HD4.out.1)
    go_wp2_with fail
    refine HSP.out.mono ?_
    rintro e w5 ⟨t, ht, rfl, hd5⟩
    have HD5 := Lib.hid (HD4.out.trans hd5)
    clear hd5 HSP
    go_wp2_with fail
    go_ret
    exact ⟨t, by omega, rfl, draw_below HG.out HD5.out⟩
  · have HD4c := Lib.hid HD4.out.1
    have HGL := Lib.hid (show (w4.alloc (.cells (strsD pcTL).toArray 9)).heap[w4.heap.size]? = some (.cells (strsD pcTL).toArray 9 (0, 0)) from (MapKept.heap_alloc w4 _).1)
    have HD0 := Lib.hid (HD4c.out.alloc (.cells (strsD pcTL).toArray 9))
    have hg0 : w4.grownBy (w4.alloc (.cells (strsD pcTL).toArray 9)) (some w.heap.size) := World.grownBy_alloc _ _ _
    have HG0 := Lib.hid hg0
    have hlit : (strsD pcTL).toArray = #[.string ⟨#[]⟩, .string ⟨#[50]⟩, .string ⟨#[51]⟩, .string ⟨#[50, 44, 45, 49]⟩, .string ⟨#[50, 44, 45, 49, 59, 45, 49]⟩, .string ⟨#[50, 44, 45, 49, 59, 45, 49, 44, 50]⟩, .string ⟨#[50, 44, 48, 59, 45, 49, 44, 50]⟩, .string ⟨#[50, 44, 32, 45, 49, 59, 45, 49, 44, 50]⟩, .string ⟨#[50, 44, 45, 52, 59, 45, 49, 44, 50]⟩] := rfl
    rw [hlit] at HD0 HG0
    have HLI := Lib.hid hlit
    clear hg0 hlit
    go_wp2_with fail
    refine (picks_any B w.heap.size _ cv len w4.heap.size pcTL 9 rfl (by omega) (by omega) (by first | exact HGL.out | (rw [← HLI.out]; exact HGL.out)) (by omega) HD0.out).mono ?_
    rintro e w5 ⟨l, hl2, rfl, hd5⟩
    have HL2 := Lib.hid (pct_short l hl2)
    have HD5 := Lib.hid (HD4.out.trans ⟨hd5.1, HG0.out.trans hd5.2⟩)
    clear hl2 hd5 HG0 HD0 HGL HLI
    go_wp2_with fail
    go_ret
    exact ⟨_, by have := HL2.out; show (Array.size _) ≤ _; simp; omega, rfl, draw_below HG.out HD5.out⟩
  · have hr0 : ((r : Int) == 0) = false := by rw [beq_eq_false_iff_ne]; omega
    have hr1 : ((r : Int) == 1) = false := by rw [beq_eq_false_iff_ne]; omega
    go_wp2_with fail
    go_ret
    exact ⟨s, by omega, rfl, draw_below HG.out HD4.out⟩
end Go.Proofs.YtcmnkhblnlmfpaaGreatDoor
namespace Go.Proofs.YtcmnkhblnlmfpaaGreatDoor
open Go.RowKit

/-! ### Words over points -/
def LetTo (n : Nat) (l : List Int) (k : Nat) : Prop := ∀ j, j < k → 0 ≤ l.getD j 0 ∧ l.getD j 0 ≤ (n : Int) - 1
theorem letTo_zero (n : Nat) (l : List Int) : LetTo n l 0 := fun _ hj => absurd hj (Nat.not_lt_zero _)
theorem letTo_step {n k : Nat} {l : List Int} (h : LetTo n l k) (hk : 0 ≤ l.getD k 0 ∧ l.getD k 0 ≤ (n : Int) - 1) : LetTo n l (k + 1) := fun j hj => by
  rcases Nat.lt_or_ge j k with h' | h'
  · exact h j h'
  · obtain rfl : j = k := by omega
    exact hk
def IsW (c : List (List Int)) (l : List Int) : Prop := LetTo c.length l l.length ∧ IsC c ∧ l.length ≤ 15
open Classical in
noncomputable def wordB (c : List (List Int)) (l : List Int) : Bool := decide (IsW c l)
open Classical in
theorem wordB_yes {c : List (List Int)} {l : List Int} (h : IsW c l) : wordB c l = true := decide_eq_true h
open Classical in
theorem wordB_no {c : List (List Int)} {l : List Int} (h : ¬ IsW c l) : wordB c l = false := decide_eq_false h
theorem isW_bad {c : List (List Int)} {l : List Int} {k : Nat} (hk : k < l.length) (h : ¬ (0 ≤ l.getD k 0 ∧ l.getD k 0 ≤ (c.length : Int) - 1)) : ¬ IsW c l := fun h' => h (h'.1 k hk)

/-! ### Which of two words comes first -/
def cmpL : List Int → List Int → Int
  | x :: a, y :: b => if x < y then -1 else if y < x then 1 else cmpL a b
  | _, _ => 0
def cmpW (a b : List Int) : Int := if a.length < b.length then -1 else if b.length < a.length then 1 else cmpL a b
theorem cmpL_same (a : List Int) : ∀ b, cmpL (a ++ b) (a ++ b) = cmpL b b := by
  induction a with
  | nil => intro b; rfl
  | cons x a ih => intro b; simp [cmpL, ih]
theorem cmpL_refl (a : List Int) : cmpL a a = 0 := by
  induction a with
  | nil => rfl
  | cons x a ih => simp [cmpL, ih]
theorem cmpL_front {p a b : List Int} : cmpL (p ++ a) (p ++ b) = cmpL a b := by
  induction p with
  | nil => rfl
  | cons x p ih => simp [cmpL, ih]
theorem cmpL_at {a b : List Int} {k : Nat} (ha : k < a.length) (hb : k < b.length) (he : a.take k = b.take k) (hne : a.getD k 0 ≠ b.getD k 0) : cmpL a b = if a.getD k 0 < b.getD k 0 then -1 else 1 := by
  have e1 : a.getD k 0 = a[k] := by simp [List.getD, ha]
  have e2 : b.getD k 0 = b[k] := by simp [List.getD, hb]
  rw [e1, e2] at hne ⊢
  conv => lhs; rw [← List.take_append_drop k a, ← List.take_append_drop k b, he, cmpL_front, List.drop_eq_getElem_cons ha, List.drop_eq_getElem_cons hb]
  unfold cmpL
  by_cases h1 : a[k] < b[k]
  · rw [if_pos h1, if_pos h1]
  · rw [if_neg h1, if_neg h1, if_pos (by omega)]
theorem cmpW_lt {a b : List Int} (h : a.length < b.length) : cmpW a b = -1 := if_pos h
theorem cmpW_gt {a b : List Int} (h : b.length < a.length) : cmpW a b = 1 := by unfold cmpW; rw [if_neg (by omega), if_pos h]
theorem cmpW_eq {a b : List Int} (h : a.length = b.length) : cmpW a b = cmpL a b := by unfold cmpW; rw [if_neg (by omega), if_neg (by omega)]
theorem cmpW_at {a b : List Int} {k : Nat} (hl : a.length = b.length) (hk : k < a.length) (he : a.take k = b.take k) (hne : a.getD k 0 ≠ b.getD k 0) : cmpW a b = if a.getD k 0 < b.getD k 0 then -1 else 1 := by
  rw [cmpW_eq hl]; exact cmpL_at hk (by omega) he hne
theorem cmpL_zero {a : List Int} : ∀ {b}, a.length = b.length → cmpL a b = 0 → a = b := by
  induction a with
  | nil => intro b h _; cases b with
    | nil => rfl
    | cons y b => simp at h
  | cons x a ih =>
    intro b h hc
    cases b with
    | nil => simp at h
    | cons y b =>
      unfold cmpL at hc
      by_cases h1 : x < y
      · rw [if_pos h1] at hc; omega
      · rw [if_neg h1] at hc
        by_cases h2 : y < x
        · rw [if_pos h2] at hc; omega
        · rw [if_neg h2] at hc
          rw [ih (by simpa using h) hc, show x = y by omega]
theorem cmpW_zero {a b : List Int} : cmpW a b = 0 ↔ a = b := by
  constructor
  · intro h
    rcases Nat.lt_trichotomy a.length b.length with h1 | h1 | h1
    · rw [cmpW_lt h1] at h; omega
    · rw [cmpW_eq h1] at h; exact cmpL_zero h1 h
    · rw [cmpW_gt h1] at h; omega
  · rintro rfl
    rw [cmpW_eq rfl, cmpL_refl]
theorem cmpL_neg (a : List Int) : ∀ b, cmpL b a = - cmpL a b := by
  induction a with
  | nil => intro b; cases b <;> rfl
  | cons x a ih =>
    intro b
    cases b with
    | nil => rfl
    | cons y b =>
      unfold cmpL
      by_cases h1 : x < y
      · rw [if_pos h1, if_neg (by omega), if_pos h1]; rfl
      · by_cases h2 : y < x
        · rw [if_pos h2, if_neg h1, if_pos h2]
        · rw [if_neg h1, if_neg h2, if_neg h2, if_neg h1, ih]
theorem cmpW_neg (a b : List Int) : cmpW b a = - cmpW a b := by
  rcases Nat.lt_trichotomy a.length b.length with h1 | h1 | h1
  · rw [cmpW_lt h1, cmpW_gt h1]; rfl
  · rw [cmpW_eq h1, cmpW_eq h1.symm, cmpL_neg]
  · rw [cmpW_lt h1, cmpW_gt h1]

/-! ### The letters that occur -/
def putS (x : Int) (s : List Int × Bool) (y : Int) : List Int × Bool :=
  let p := s.2 || decide (y = x)
  if decide (x < y) && !p then (s.1 ++ [x, y], true) else (s.1 ++ [y], p)
def putP (x : Int) (l : List Int) : List Int × Bool := l.foldl (putS x) ([], false)
def putL (l : List Int) (x : Int) : List Int := if (putP x l).2 then (putP x l).1 else (putP x l).1 ++ [x]
theorem putP_snoc (x : Int) (l : List Int) (y : Int) : putP x (l ++ [y]) = putS x (putP x l) y := by simp [putP]
theorem putP_take {x : Int} {l : List Int} {k : Nat} (h : k < l.length) : putP x (l.take (k + 1)) = putS x (putP x (l.take k)) (l.getD k 0) := by
  rw [List.take_succ_eq_append_getElem h, putP_snoc]; simp [List.getD, h]
theorem putS_len (x : Int) (s : List Int × Bool) (y : Int) : (putS x s y).1.length + (if (putS x s y).2 then 0 else 1) ≤ s.1.length + 1 + (if s.2 then 0 else 1) := by
  unfold putS
  simp only []
  split
  · rename_i h
    simp only [Bool.and_eq_true, Bool.not_eq_true', Bool.or_eq_false_iff] at h
    rw [h.2.1]; simp
  · cases s.2 <;> simp
    split <;> omega
theorem putP_len (x : Int) (l : List Int) : (putP x l).1.length + (if (putP x l).2 then 0 else 1) ≤ l.length + 1 := by
  have : ∀ (l : List Int) (s : List Int × Bool), (l.foldl (putS x) s).1.length + (if (l.foldl (putS x) s).2 then 0 else 1) ≤ s.1.length + l.length + (if s.2 then 0 else 1) := by
    intro l
    induction l with
    | nil => intro s; exact Nat.le_refl _
    | cons y l ih =>
      intro s
      rw [List.foldl_cons]
      refine Nat.le_trans (ih _) ?_
      have := putS_len x s y
      simp only [List.length_cons]
      omega
  have h := this l ([], false)
  simp at h
  unfold putP
  omega
theorem putL_len (l : List Int) (x : Int) : (putL l x).length ≤ l.length + 1 := by
  have := putP_len x l
  unfold putL
  split
  · rename_i h; rw [h] at this; simp at this; exact this
  · rename_i h
    have h' : (putP x l).2 = false := by simpa using h
    rw [h'] at this; simp at this ⊢; omega
def suppL (w : List Int) : List Int := w.foldl putL []
theorem suppL_take {w : List Int} {k : Nat} (h : k < w.length) : suppL (w.take (k + 1)) = putL (suppL (w.take k)) (w.getD k 0) := by
  rw [List.take_succ_eq_append_getElem h]
  unfold suppL
  rw [List.foldl_append]
  simp [List.getD, h]
theorem suppL_len (w : List Int) : (suppL w).length ≤ w.length := by
  have : ∀ (w l : List Int), (w.foldl putL l).length ≤ l.length + w.length := by
    intro w
    induction w with
    | nil => intro l; simp
    | cons x w ih =>
      intro l
      rw [List.foldl_cons]
      have := putL_len l x
      refine Nat.le_trans (ih _) ?_
      simp only [List.length_cons]
      omega
  simpa [suppL] using this w []

/-! ### Letters in turn -/
def altK (i j : Int) (k : Nat) : List Int := (List.range k).map fun t => if t % 2 = 0 then i else j
theorem altK_len (i j : Int) (k : Nat) : (altK i j k).length = k := by simp [altK]
theorem altK_even {i j : Int} {k : Nat} (h : k % 2 = 0) : altK i j k ++ [i] = altK i j (k + 1) := by simp [altK, List.range_succ, h]
theorem altK_odd {i j : Int} {k : Nat} (h : ¬ k % 2 = 0) : altK i j k ++ [j] = altK i j (k + 1) := by simp [altK, List.range_succ, h]
def altL (i j n : Int) : List Int := altK i j (min n.toNat 15)

/-! ### Texts -/
def letC (x : Int) : UInt8 := UInt8.ofNat (49 + x.toNat)
def fmtTo (w : List Int) (k : Nat) : List UInt8 := (w.take k).map letC
theorem fmtTo_step {w : List Int} {k : Nat} (h : k < w.length) : fmtTo w k ++ [letC (w.getD k 0)] = fmtTo w (k + 1) := by
  unfold fmtTo
  rw [List.take_succ_eq_append_getElem h, List.map_append]; simp [List.getD, h]
theorem fmtTo_len (w : List Int) (k : Nat) : (fmtTo w k).length ≤ k := by simp [fmtTo]; omega
open Classical in
noncomputable def fmtW (w : List Int) : List UInt8 := if LetTo 4 w w.length then (if w = [] then [101] else w.map letC) else []
theorem fmtW_bad {w : List Int} (h : ¬ LetTo 4 w w.length) : fmtW w = [] := if_neg h
theorem fmtW_nil : fmtW [] = [101] := by unfold fmtW; rw [if_pos (show LetTo 4 [] ([] : List Int).length from letTo_zero _ _), if_pos rfl]
theorem fmtW_full {w : List Int} (h : LetTo 4 w w.length) (hne : w ≠ []) : fmtW w = w.map letC := by unfold fmtW; rw [if_pos h, if_neg hne]
def letN (b : UInt8) : Int := (b.toNat : Int) - 49
def parW (l : List UInt8) : List Int := if l = [101] then [] else l.map letN
def PwOk (c : List (List Int)) (l : List UInt8) : Prop := l ≠ [] ∧ IsW c (parW l)
open Classical in
noncomputable def pwB (c : List (List Int)) (l : List UInt8) : Bool := decide (PwOk c l)
open Classical in
theorem pwB_yes {c : List (List Int)} {l : List UInt8} (h : PwOk c l) : pwB c l = true := decide_eq_true h
open Classical in
theorem pwB_no {c : List (List Int)} {l : List UInt8} (h : ¬ PwOk c l) : pwB c l = false := decide_eq_false h
noncomputable def pwL (c : List (List Int)) (l : List UInt8) : List Int := if pwB c l = true then parW l else []
theorem pwL_yes {c : List (List Int)} {l : List UInt8} (h : PwOk c l) : pwL c l = parW l := if_pos (pwB_yes h)
theorem pwL_no {c : List (List Int)} {l : List UInt8} (h : ¬ PwOk c l) : pwL c l = [] := by unfold pwL; rw [pwB_no h]; rfl
end Go.Proofs.YtcmnkhblnlmfpaaGreatDoor
