/-
  The draws of FnWeights.
-/
import Derived.Test.YtfjeghalkmkgoaaGreatDoorFW19
namespace Go.Proofs.YtfjeghalkmkgoaaGreatDoor
open Go.RowKit

def DrawnMIV (w : World) (e : Ending) (w' : World) : Prop :=
  ∃ x y a l, ∃ i : Int, e = .returned (.tuple #[x, .int .i64 i, y]) ∧ Below w.heap.size w w' ∧ MatB w'.heap.size w' x a ∧ AnyM a ∧ RowB w'.heap.size w' y l ∧ l.length ≤ 6 ∧ Fits l
set_option maxRecDepth 100000 in
theorem drawRf_any (B : Nat) (w : World) (cv : Value) (len : Nat) (hl : len ≤ 1048576) (hc : CodeB B w cv len) (hB : B ≤ w.heap.size) :
    Calls Tryz.prog 5 #[cv] w (DrawnMIV w) := by
  have HN := Lib.hid (l6a_any B w cv len hl hc hB)
  obtain ⟨ca, ccap, rfl⟩ : ∃ a cap, cv = .slice a len cap := by
    rcases hc with ⟨⟨a, cap, h⟩, h0⟩ | ⟨b, off, cap, h, _⟩
    · exact ⟨a, cap, by rw [h0]; exact h⟩
    · exact ⟨_, cap, h⟩
  clear hc
  go_enter Tryz.func5, Tryz.ntmps5
  go_wp2_with fail
  refine HN.out.mono ?_
  rintro e w1 ⟨x, y, a, l, rfl, h1, h2, h3, h4, h5, h6⟩
  have H1 := Lib.hid h1; have H2 := Lib.hid h2.mat; have H3 := Lib.hid h3; have H4 := Lib.hid h4.1.rowB; have H5 := Lib.hid h5; have H6 := Lib.hid h6
  clear h1 h2 h3 h4 h5 h6
  go_wp2_with fail
  go_ret3
  exact ⟨x, y, a, l, _, rfl, H1.out, H2.out, H3.out, H4.out, H5.out, H6.out⟩
def DrawnMI (w : World) (e : Ending) (w' : World) : Prop :=
  ∃ x a, ∃ i : Int, e = .returned (.tuple #[x, .int .i64 i]) ∧ Below w.heap.size w w' ∧ MatB w'.heap.size w' x a ∧ AnyM a
set_option maxRecDepth 100000 in
theorem drawSr_any (B : Nat) (w : World) (cv : Value) (len : Nat) (hl : len ≤ 1048576) (hc : CodeB B w cv len) (hB : B ≤ w.heap.size) :
    Calls Tryz.prog 22 #[cv] w (DrawnMI w) := by
  have HN := Lib.hid (l6a_any B w cv len hl hc hB)
  obtain ⟨ca, ccap, rfl⟩ : ∃ a cap, cv = .slice a len cap := by
    rcases hc with ⟨⟨a, cap, h⟩, h0⟩ | ⟨b, off, cap, h, _⟩
    · exact ⟨a, cap, by rw [h0]; exact h⟩
    · exact ⟨_, cap, h⟩
  clear hc
  go_enter Tryz.func22, Tryz.ntmps22
  go_wp2_with fail
  refine HN.out.mono ?_
  rintro e w1 ⟨x, y, a, l, rfl, h1, h2, h3, h4, h5, h6⟩
  have H1 := Lib.hid h1; have H2 := Lib.hid h2.mat; have H3 := Lib.hid h3
  clear h1 h2 h3 h4 h5 h6
  go_wp2_with fail
  go_ret2
  exact ⟨x, a, _, rfl, H1.out, H2.out, H3.out⟩
def DrawnMSV (w : World) (e : Ending) (w' : World) : Prop :=
  ∃ x z y a ws l, e = .returned (.tuple #[x, z, y]) ∧ Below w.heap.size w w' ∧ MatB w'.heap.size w' x a ∧ AnyM a ∧ RowB w'.heap.size w' z ws ∧ ws.length ≤ 12 ∧ RowB w'.heap.size w' y l ∧ l.length ≤ 6
set_option maxHeartbeats 2000000 in
set_option maxRecDepth 100000 in
theorem drawAc_any (B : Nat) (w : World) (cv : Value) (len : Nat) (hl : len ≤ 1048576) (hc : CodeB B w cv len) (hB : B ≤ w.heap.size) :
    Calls Tryz.prog 16 #[cv] w (DrawnMSV w) := by
  have HN := Lib.hid (new_any B w cv len hl hB hc)
  clear hc
  go_enter Tryz.func16, Tryz.ntmps16
  go_wp2_with fail
  refine HN.out.mono ?_
  rintro e w1 ⟨rfl, hd, hg⟩
  have HG := Lib.hid hg
  have hs1 := hg.size
  have hC1 := hd.lt
  have HD := Lib.hid hd
  have HA := Lib.hid (l6a_any B w1 cv len hl hd.2.1 (by omega))
  clear hd hg HN
  go_wp2_with fail
  refine HA.out.mono ?_
  rintro e w2 ⟨x, y, a, l, rfl, hb2, hx, ha, hy, hll, hft⟩
  have HD2 := Lib.hid (DrTo.of_below HD.out hb2)
  have HX := Lib.hid hx
  have HY := Lib.hid hy.1
  have HAM := Lib.hid ha
  have HLL := Lib.hid hll
  have hs2 := hb2.size
  obtain ⟨xa, xcap, rfl⟩ := hx.mat.slice
  have hn5 := ha.1
  clear hx ha hy hb2 HA hll hft
  generalize hn : a.length = n at *
  have HLN := Lib.hid hn; clear hn
  have HW := Lib.hid (l5w_any B w.heap.size w2 cv len HD2.out.1 xa n xcap (by omega) 8 (by omega))
  go_wp2_with fail
  refine HW.out.mono ?_
  rintro e w3 ⟨z, ws, rfl, hd3, hz, hwl⟩
  have HD3 := Lib.hid (HD2.out.trans hd3)
  have HX3 := Lib.hid (HX.out.drawn hC1 hd3)
  have HY3 := Lib.hid (HY.out.drawn (C := w.heap.size) (by omega) hd3)
  have HZ := Lib.hid hz.1.rowB
  clear hd3 hz HW HX HY
  go_wp2_with fail
  go_ret3
  exact ⟨_, z, y, a, ws, l, rfl, draw_below HG.out HD3.out, HX3.out.grow.mat, HAM.out, HZ.out, by omega, HY3.out.rowB, HLL.out⟩
def DrawnMT (w : World) (e : Ending) (w' : World) : Prop :=
  ∃ x a s, e = .returned (.tuple #[x, .string s]) ∧ Below w.heap.size w w' ∧ MatB w'.heap.size w' x a ∧ AnyM a ∧ s.size ≤ 1000
theorem rowT_short {l : List Int} (h : Fits l) (hl : l.length ≤ 6) : (rowT l).length ≤ 132 := by
  have := join_le [44] 21 (l.map Lib.itoa) (fun x hx => by
    obtain ⟨y, hy, rfl⟩ := List.mem_map.1 hx
    exact Lib.itoa_length_le y (h y hy).1 (h y hy).2)
  simp [rowT] at this ⊢
  omega
set_option maxHeartbeats 2000000 in
set_option maxRecDepth 100000 in
theorem drawPwt_any (B : Nat) (w : World) (cv : Value) (len : Nat) (hl : len ≤ 1048576) (hc : CodeB B w cv len) (hB : B ≤ w.heap.size) :
    Calls Tryz.prog 19 #[cv] w (DrawnMT w) := by
  have HN := Lib.hid (new_any B w cv len hl hB hc)
  clear hc
  go_enter Tryz.func19, Tryz.ntmps19
  go_wp2_with fail
  refine HN.out.mono ?_
  rintro e w1 ⟨rfl, hd, hg⟩
  have HG := Lib.hid hg
  have hs1 := hg.size
  have hC1 := hd.lt
  have HD := Lib.hid hd
  have HA := Lib.hid (l6a_any B w1 cv len hl hd.2.1 (by omega))
  clear hd hg HN
  go_wp2_with fail
  refine HA.out.mono ?_
  rintro e w2 ⟨x, y, a, l, rfl, hb2, hx, ha, hy, hll, hft⟩
  have HD2 := Lib.hid (DrTo.of_below HD.out hb2)
  have HX := Lib.hid hx
  have HAM := Lib.hid ha
  have hs2 := hb2.size
  have HFW := Lib.hid (fmtws_any _ y l w2 hy.1.rowB (Nat.le_refl _) (by omega) hft)
  have hfs := rowT_short hft hll
  obtain ⟨s, hs⟩ : ∃ s : ByteArray, s = ⟨(rowT l).toArray⟩ := ⟨_, rfl⟩
  have hss : s.size ≤ 132 := by rw [hs, ba_list]; omega
  rw [← hs] at HFW
  clear hs hfs hx ha hy hb2 HA hft
  go_wp2_with fail
  refine HFW.out.mono ?_
  rintro e w3 ⟨rfl, hb3⟩
  have HD3 := Lib.hid (HD2.out.trans (DrTo.of_below HD2.out.1 hb3))
  have HX3 := Lib.hid (HX.out.same (fun j _ h2 => hb3.block j h2) hb3.size)
  have hs3 := hb3.size
  clear hb3 HFW HD2 HX
  go_wp2_with fail
  refine (once_any B w.heap.size _ cv len 3 (by omega) (by omega) HD3.out.1).mono ?_
  rintro e w4 ⟨q, rfl, hd4⟩
  have HD4 := Lib.hid (HD3.out.trans hd4)
  have HX4 := Lib.hid (HX3.out.drawn (C := w.heap.size) hC1 hd4)
  have hs4 := hd4.2.size
  clear hd4 HD3 HX3
  cases q with
  | true =>
    have HSP := Lib.hid (spoil_any B w.heap.size w4 cv len s s.size rfl (by omega) HD4.out.1)
    go_wp2_with fail
    refine HSP.out.mono ?_
    rintro e w5 ⟨t, ht, rfl, hd5⟩
    have HD5 := Lib.hid (HD4.out.trans hd5)
    have HX5 := Lib.hid (HX4.out.drawn (C := w.heap.size) hC1 hd5)
    clear hd5 HSP
    go_wp2_with fail
    go_ret2
    exact ⟨x, a, t, rfl, draw_below HG.out HD5.out, HX5.out.grow.mat, HAM.out, by omega⟩
  | false =>
    go_wp2_with fail
    go_ret2
    exact ⟨x, a, s, rfl, draw_below HG.out HD4.out, HX4.out.grow.mat, HAM.out, by omega⟩
def DrawnVV (w : World) (e : Ending) (w' : World) : Prop :=
  ∃ x y l l', e = .returned (.tuple #[x, y]) ∧ Below w.heap.size w w' ∧ RowB w'.heap.size w' x l ∧ l.length ≤ 6 ∧ RowB w'.heap.size w' y l' ∧ l'.length ≤ 6
set_option maxHeartbeats 2000000 in
set_option maxRecDepth 100000 in
theorem drawAd_any (B : Nat) (w : World) (cv : Value) (len : Nat) (hl : len ≤ 1048576) (hc : CodeB B w cv len) (hB : B ≤ w.heap.size) :
    Calls Tryz.prog 21 #[cv] w (DrawnVV w) := by
  have HA := Lib.hid (l6a_any B w cv len hl hc hB)
  have HNW := Lib.hid (fun (wx : World) (hb : Below w.heap.size w wx) => new_any B wx cv len hl (Nat.le_trans hB hb.size) (hc.below (hb.mono hB)))
  clear hc
  go_enter Tryz.func21, Tryz.ntmps21
  go_wp2_with fail
  refine HA.out.mono ?_
  rintro e w1 ⟨x, y, a, l, rfl, hb1, hx, ha, hy, hll, hft⟩
  have HB1 := Lib.hid hb1
  have HY := Lib.hid hy.1.rowB
  have HLL := Lib.hid hll
  have HN := Lib.hid (HNW.out w1 hb1)
  have hs1 := hb1.size
  clear hb1 hx ha hy hll hft HA HNW
  go_wp2_with fail
  refine HN.out.mono ?_
  rintro e w2 ⟨rfl, hd, hg⟩
  have HG := Lib.hid hg
  have hs2 := hg.size
  have HDW := Lib.hid (drw_any B w1.heap.size w2 cv len hd)
  clear hd hg HN
  go_wp2_with fail
  refine HDW.out.mono ?_
  rintro e w3 ⟨xd, ad, rfl, hd3, hxd, had⟩
  have HD3 := Lib.hid hd3
  have hs3 := hd3.2.size
  obtain ⟨xa, xcap, rfl⟩ := hxd.1.slice
  have hn5 := had.2.2
  clear hd3 hxd had HDW
  generalize hn : ad.length = n at *
  clear hn
  have HW := Lib.hid (l6w_any B w1.heap.size w3 cv len HD3.out.1 xa n xcap (by omega) 3 (by omega))
  go_wp2_with fail
  refine HW.out.mono ?_
  rintro e w4 ⟨z, l', rfl, hd4, hz, hzl, hzf⟩
  have HB4 := Lib.hid (draw_below HG.out (HD3.out.trans hd4))
  have HZ := Lib.hid hz.1.rowB
  have HZL := Lib.hid hzl
  clear hd4 hz hzl hzf HW
  go_wp2_with fail
  go_ret2
  exact ⟨y, z, l, l', rfl, HB1.out.trans (HB4.out.mono HB1.out.size), (HY.out.below HB4.out (Nat.le_refl _)).mono HB4.out.size, HLL.out, HZ.out, by rw [HZL.out]; omega⟩
end Go.Proofs.YtfjeghalkmkgoaaGreatDoor
