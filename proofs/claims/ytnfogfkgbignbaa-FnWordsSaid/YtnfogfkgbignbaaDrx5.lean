/-
  The draws of FnWords.
-/
import Derived.Test.YtnfogfkgbignbaaDrw5
import Derived.Test.YtnfogfkgbignbaaWrdU
import Derived.Test.YtnfogfkgbignbaaSpo
namespace Go.Proofs.Ytnfogfkgbignbaa
open Go.RowKit

set_option maxRecDepth 100000 in
theorem drawIw_any (B : Nat) (w : World) (cv : Value) (len : Nat) (hl : len ≤ 1048576) (hc : CodeB B w cv len) (hB : B ≤ w.heap.size) :
    Calls Try.prog 14 #[cv] w (DrawnMW w) := by
  have HN := Lib.hid (l5a_any B w cv len hl hc hB)
  clear hc
  go_enter Try.func14, Try.ntmps14
  go_wp2_with fail
  refine HN.out.mono ?_
  rintro e w1 ⟨x, y, a, l, rfl, h1, h2, h3, h4, h5⟩
  have H1 := Lib.hid h1; have H2 := Lib.hid h2; have H3 := Lib.hid h3; have H4 := Lib.hid h4; have H5 := Lib.hid h5
  clear h1 h2 h3 h4 h5
  go_wp2_with fail
  go_ret2
  exact ⟨x, y, a, l, rfl, H1.out, H2.out, H3.out, H4.out, H5.out⟩

def DrawnSS (w : World) (e : Ending) (w' : World) : Prop :=
  ∃ x y l l', e = .returned (.tuple #[x, y]) ∧ Below w.heap.size w w' ∧ RowB w'.heap.size w' x l ∧ l.length ≤ 12 ∧ RowB w'.heap.size w' y l' ∧ l'.length ≤ 12
set_option maxHeartbeats 2000000 in
set_option maxRecDepth 100000 in
theorem l5t_any (B : Nat) (w : World) (cv : Value) (len : Nat) (hl : len ≤ 1048576) (hc : CodeB B w cv len) (hB : B ≤ w.heap.size) :
    Calls Try.prog 53 #[cv] w (DrawnSS w) := by
  have HN := Lib.hid (new_any B w cv len hl hB hc)
  clear hc
  go_enter Try.func53, Try.ntmps53
  go_wp2_with fail
  refine HN.out.mono ?_
  rintro e w1 ⟨rfl, hd, hg⟩
  have HG := Lib.hid hg
  have hs1 := hg.size
  have hC1 := hd.lt
  have HA := Lib.hid (drw_any B w.heap.size w1 cv len hd)
  clear hd hg HN
  go_wp2_with fail
  refine HA.out.mono ?_
  rintro e w2 ⟨x, a, rfl, hd2, hx, ha⟩
  have HD2 := Lib.hid hd2
  have hs2 := hd2.2.size
  obtain ⟨xa, xcap, rfl⟩ := hx.1.slice
  have hn5 := ha.2.2
  clear hd2 hx ha HA
  generalize hn : a.length = n at *
  have HLN := Lib.hid hn; clear hn
  have HW := Lib.hid (l5w_any B w.heap.size w2 cv len HD2.out.1 xa n xcap (by omega) 7 (by omega))
  go_wp2_with fail
  refine HW.out.mono ?_
  rintro e w3 ⟨y, l, rfl, hd3, hy, hll⟩
  have HD3 := Lib.hid (HD2.out.trans hd3)
  have HY := Lib.hid hy
  have hs3 := hd3.2.size
  clear hd3 hy HW HD2
  go_wp2_with fail
  refine (once_any B w.heap.size _ cv len 4 (by omega) (by omega) HD3.out.1).mono ?_
  rintro e w4 ⟨q, rfl, hd4⟩
  have HD4 := Lib.hid (HD3.out.trans hd4)
  have HY4 := Lib.hid ((HY.out.1).drawn (C := w.heap.size) (by omega) hd4)
  have hs4 := hd4.2.size
  clear hd4 HD3 HY
  cases q with
  | false =>
    have HW := Lib.hid (l5w_any B w.heap.size w4 cv len HD4.out.1 xa n xcap (by omega) 7 (by omega))
    go_wp2_with fail
    refine HW.out.mono ?_
    rintro e w5 ⟨z, l', rfl, hd5, hz, hll'⟩
    have HD5 := Lib.hid (HD4.out.trans hd5)
    have HY5 := Lib.hid (HY4.out.drawn (C := w.heap.size) (by omega) hd5)
    have HZ := Lib.hid hz
    clear hd5 hz HW
    go_wp2_with fail
    go_ret2
    exact ⟨y, z, l, l', rfl, draw_below HG.out HD5.out, HY5.out.rowB, by omega, HZ.out.1.rowB, by omega⟩
  | true =>
    have hs0 : w4.heap.size ≤ (w4.alloc (.cells #[] 3)).heap.size := by simp
    have hb0 : Below w4.heap.size w4 (w4.alloc (.cells #[] 3)) := (Below.refl _ _).alloc (Nat.le_refl _) _
    have HYB := Lib.hid (HY4.out.rowB.below hb0 (Nat.le_refl _))
    have HL4 := Lib.hid (show ([] : List Int).length + l.length ≤ 4194304 by simp; omega)
    clear hb0
    go_wp2_with (at_builtin; go_must (refine append_intsA (row_empty w4) hs0 HYB.out HL4.out rfl rfl rfl rfl ?_; intro v6 w6 hr6 hb6 hz6))
    have hr6 : RowI w4.heap.size w6.heap.size w6 v6 l := by simpa using hr6
    have hb6' := hb6 w4 w4.heap.size (Nat.le_refl _) ((Below.refl _ _).alloc (Nat.le_refl _) _)
    have HR6 := Lib.hid hr6
    have HY6 := Lib.hid ((HY4.out.rowB.below hb6' (Nat.le_refl _)).mono hb6'.size)
    have HB6 := Lib.hid ((draw_below HG.out HD4.out).trans (hb6'.mono (by omega)))
    clear hr6 hb6 hz6 hb6'
    go_wp2_with fail
    go_ret2
    exact ⟨y, _, l, l, rfl, HB6.out, HY6.out, by omega, HR6.out.rowB, by omega⟩
set_option maxRecDepth 100000 in
theorem drawCw_any (B : Nat) (w : World) (cv : Value) (len : Nat) (hl : len ≤ 1048576) (hc : CodeB B w cv len) (hB : B ≤ w.heap.size) :
    Calls Try.prog 21 #[cv] w (DrawnSS w) := by
  have HN := Lib.hid (l5t_any B w cv len hl hc hB)
  clear hc
  go_enter Try.func21, Try.ntmps21
  go_wp2_with fail
  refine HN.out.mono ?_
  rintro e w1 ⟨x, y, l, l', rfl, h1, h2, h3, h4, h5⟩
  have H1 := Lib.hid h1; have H2 := Lib.hid h2; have H3 := Lib.hid h3; have H4 := Lib.hid h4; have H5 := Lib.hid h5
  clear h1 h2 h3 h4 h5
  go_wp2_with fail
  go_ret2
  exact ⟨x, y, l, l', rfl, H1.out, H2.out, H3.out, H4.out, H5.out⟩
def pwTL : List (List UInt8) := [[], [101], [101, 101], [48], [53], [49, 101], [49, 50]]
theorem pwt_short : ∀ l ∈ pwTL, l.length ≤ 2 := by decide
def DrawnMT (w : World) (e : Ending) (w' : World) : Prop :=
  ∃ x a s, e = .returned (.tuple #[x, .string s]) ∧ Below w.heap.size w w' ∧ MatB w'.heap.size w' x a ∧ AnyM a ∧ s.size ≤ 1000
theorem fmtW_short (l : List Int) : (fmtW l).length ≤ l.length + 1 := by
  unfold fmtW
  split
  · split
    · simp
    · simp
  · simp
theorem DrTo.from {B C : Nat} {cv : Value} {len : Nat} {w w' : World} (h : Dr B C cv len w) (hb : Below w.heap.size w w') : DrTo B C cv len w w' := DrTo.of_below h hb
set_option maxHeartbeats 2000000 in
set_option maxRecDepth 100000 in
theorem drawPw_any (B : Nat) (w : World) (cv : Value) (len : Nat) (hl : len ≤ 1048576) (hc : CodeB B w cv len) (hB : B ≤ w.heap.size) :
    Calls Try.prog 23 #[cv] w (DrawnMT w) := by
  have HN := Lib.hid (new_any B w cv len hl hB hc)
  have HCO := Lib.hid hc
  clear hc
  go_enter Try.func23, Try.ntmps23
  go_wp2_with fail
  refine HN.out.mono ?_
  rintro e w1 ⟨rfl, hd, hg⟩
  have HG := Lib.hid hg
  have hs1 := hg.size
  have hC1 := hd.lt
  have HD := Lib.hid hd
  have HA := Lib.hid (l5a_any B w1 cv len hl hd.2.1 (by omega))
  clear hd hg HN HCO
  go_wp2_with fail
  refine HA.out.mono ?_
  rintro e w2 ⟨x, y, a, l, rfl, hb2, hx, ha, hy, hll⟩
  have HD2 := Lib.hid (DrTo.of_below HD.out hb2)
  have HX := Lib.hid hx
  have HAM := Lib.hid ha
  have hs2 := hb2.size
  have HFW := Lib.hid (fmws_any _ y l w2 hy.1.rowB (Nat.le_refl _) (by omega))
  have hfs := fmtW_short l
  obtain ⟨s, hs⟩ : ∃ s : ByteArray, s = ⟨(fmtW l).toArray⟩ := ⟨_, rfl⟩
  have hss : s.size ≤ 13 := by rw [hs, str_mk_size]; omega
  rw [← hs] at HFW
  clear hs hfs hx ha hy hb2 HA
  go_wp2_with fail
  refine HFW.out.mono ?_
  rintro e w3 ⟨rfl, hb3⟩
  have HD3 := Lib.hid (HD2.out.trans (DrTo.of_below HD2.out.1 hb3))
  have HX3 := Lib.hid (HX.out.same (fun j _ h2 => hb3.block j h2) hb3.size)
  have hs3 := hb3.size
  have HBE := Lib.hid (below_any B w.heap.size w3 cv len 4 (by omega) (by omega) HD3.out.1)
  clear hb3 HFW HD2 HX
  go_wp2_with fail
  refine HBE.out.mono ?_
  rintro e w4 ⟨r, hr, rfl, hd4⟩
  have HD4 := Lib.hid (HD3.out.trans hd4)
  have HX4 := Lib.hid (HX3.out.drawn (C := w.heap.size) hC1 hd4)
  have hs4 := hd4.2.size
  clear hd4 HD3 HBE HX3
  rcases (show r = 0 ∨ r = 1 ∨ 2 ≤ r by omega) with rfl | rfl | hr2
  · have HSP := Lib.hid (spoil_any B w.heap.size w4 cv len s s.size rfl (by omega) HD4.out.1)
    go_wp2_with fail
    refine HSP.out.mono ?_
    rintro e w5 ⟨t, ht, rfl, hd5⟩
    have HD5 := Lib.hid (HD4.out.trans hd5)
    have HX5 := Lib.hid (HX4.out.drawn (C := w.heap.size) hC1 hd5)
    clear hd5 HSP
    go_wp2_with fail
    go_ret2
    exact ⟨x, a, t, rfl, draw_below HG.out HD5.out, HX5.out.grow.mat, HAM.out, by omega⟩
  · have HGL := Lib.hid (show (w4.alloc (.cells (strsD pwTL).toArray 9)).heap[w4.heap.size]? = some (.cells (strsD pwTL).toArray 9 (0, 0)) from (MapKept.heap_alloc w4 _).1)
    have HD0 := Lib.hid (HD4.out.1.alloc (.cells (strsD pwTL).toArray 9))
    have hg0 : w4.grownBy (w4.alloc (.cells (strsD pwTL).toArray 9)) (some w.heap.size) := World.grownBy_alloc _ _ _
    have HG0 := Lib.hid hg0
    have hlit : (strsD pwTL).toArray = #[.string ⟨#[]⟩, .string ⟨#[101]⟩, .string ⟨#[101, 101]⟩, .string ⟨#[48]⟩, .string ⟨#[53]⟩, .string ⟨#[49, 101]⟩, .string ⟨#[49, 50]⟩] := rfl
    rw [hlit] at HD0 HG0
    have HLI := Lib.hid hlit
    clear hg0 hlit
    go_wp2_with fail
    refine (picks_any B w.heap.size _ cv len w4.heap.size pwTL 7 rfl (by omega) (by omega) (by first | exact HGL.out | (rw [← HLI.out]; exact HGL.out)) (by omega) HD0.out).mono ?_
    rintro e w5 ⟨l2, hl2, rfl, hd5⟩
    have HL2 := Lib.hid (pwt_short l2 hl2)
    have hd05 : DrTo B w.heap.size cv len w4 w5 := ⟨hd5.1, HG0.out.trans hd5.2⟩
    have HD5 := Lib.hid (HD4.out.trans hd05)
    have HX5 := Lib.hid (HX4.out.drawn (C := w.heap.size) hC1 hd05)
    clear hl2 hd5 hd05 HG0 HD0 HGL HLI
    go_wp2_with fail
    go_ret2
    exact ⟨x, a, _, rfl, draw_below HG.out HD5.out, HX5.out.grow.mat, HAM.out, by have := HL2.out; rw [str_mk_size]; omega⟩
  · have hr0 : ((r : Int) == 0) = false := by rw [beq_eq_false_iff_ne]; omega
    have hr1 : ((r : Int) == 1) = false := by rw [beq_eq_false_iff_ne]; omega
    go_wp2_with fail
    go_ret2
    exact ⟨x, a, s, rfl, draw_below HG.out HD4.out, HX4.out.grow.mat, HAM.out, by omega⟩
def DrawnIJ (w : World) (e : Ending) (w' : World) : Prop :=
  ∃ i j n : Int, e = .returned (.tuple #[.int .i64 i, .int .i64 j, .int .i64 n]) ∧ Below w.heap.size w w' ∧ isI64 n
set_option maxHeartbeats 2000000 in
set_option maxRecDepth 100000 in
theorem drawAw_any (B : Nat) (w : World) (cv : Value) (len : Nat) (hl : len ≤ 1048576) (hc : CodeB B w cv len) (hB : B ≤ w.heap.size) :
    Calls Try.prog 25 #[cv] w (DrawnIJ w) := by
  have HN := Lib.hid (new_any B w cv len hl hB hc)
  clear hc
  go_enter Try.func25, Try.ntmps25
  go_wp2_with fail
  refine HN.out.mono ?_
  rintro e w1 ⟨rfl, hd, hg⟩
  have HG := Lib.hid hg
  have hs1 := hg.size
  have hC1 := hd.lt
  have HA := Lib.hid (below_any B w.heap.size w1 cv len 4 (by omega) (by omega) hd)
  clear hd hg HN
  go_wp2_with fail
  refine HA.out.mono ?_
  rintro e w2 ⟨i, hi, rfl, hd2⟩
  have HD2 := Lib.hid hd2
  have hs2 := hd2.2.size
  have HA2 := Lib.hid (below_any B w.heap.size w2 cv len 4 (by omega) (by omega) hd2.1)
  clear hd2 HA
  go_wp2_with fail
  refine HA2.out.mono ?_
  rintro e w3 ⟨j, hj, rfl, hd3⟩
  have HD3 := Lib.hid (HD2.out.trans hd3)
  have hs3 := hd3.2.size
  clear hd3 HA2 HD2
  have HGL := Lib.hid (show (w3.alloc (.cells (([-1, 0, 1, 2, 3, 6, 15, 16] : List Int).map (Value.int .i64)).toArray 3)).heap[w3.heap.size]? = some (.cells (([-1, 0, 1, 2, 3, 6, 15, 16] : List Int).map (Value.int .i64)).toArray 3 (0, 0)) from (MapKept.heap_alloc w3 _).1)
  have HD0 := Lib.hid (HD3.out.1.alloc (.cells (([-1, 0, 1, 2, 3, 6, 15, 16] : List Int).map (Value.int .i64)).toArray 3))
  have HB0 := Lib.hid (show Below w3.heap.size w3 (w3.alloc (.cells (([-1, 0, 1, 2, 3, 6, 15, 16] : List Int).map (Value.int .i64)).toArray 3)) from (Below.refl _ _).alloc (Nat.le_refl _) _)
  have HPK := Lib.hid (pick_any B w.heap.size (w3.alloc (.cells (([-1, 0, 1, 2, 3, 6, 15, 16] : List Int).map (Value.int .i64)).toArray 3)) cv len w3.heap.size [-1, 0, 1, 2, 3, 6, 15, 16] 8 rfl (by omega) (by omega) (fun v hv => by simp at hv; unfold isI64; omega) HGL.out (by omega) HD0.out)
  clear HGL
  go_wp2_with fail
  refine HPK.out.mono ?_
  rintro e w4 ⟨v, hv, rfl, hd4⟩
  have HV := Lib.hid hv
  have HD4 := Lib.hid (HD3.out.trans ((DrTo.of_below HD3.out.1 HB0.out).trans hd4))
  clear hv hd4 HPK HB0 HD0
  go_wp2_with fail
  go_ret3
  exact ⟨_, _, v, rfl, draw_below HG.out HD4.out, HV.out⟩
end Go.Proofs.Ytnfogfkgbignbaa
