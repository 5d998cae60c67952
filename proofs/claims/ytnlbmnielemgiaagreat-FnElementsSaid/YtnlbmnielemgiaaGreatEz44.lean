/-
  The draws of chapter 8: a matrix and two words, and what the law's 'has' returns.
  The draws of chapter 9.
  The law's comparisons of lists and of lists of lists: what the calls return.
-/
import Derived.Test.YtnlbmnielemgiaaGreatEz43
import Derived.Test.YtnlbmnielemgiaaGreatEz17
import Derived.Test.YtnlbmnielemgiaaGreatEz23
import Derived.Test.YtnlbmnielemgiaaGreatEz01
namespace Go.Proofs.YtnlbmnielemgiaaGreat
open Go.RowKit

def DrawnMWW (w : World) (e : Ending) (w' : World) : Prop :=
  ∃ x y z m a b, e = .returned (.tuple #[x, y, z]) ∧ Below w.heap.size w w' ∧ OwnK w.heap.size w'.heap.size w' x m ∧ AnyM m ∧ OwnS w.heap.size w'.heap.size w' y a ∧ a.length ≤ 12 ∧ OwnS w.heap.size w'.heap.size w' z b ∧ b.length ≤ 31
set_option maxHeartbeats 4000000 in
set_option maxRecDepth 100000 in
theorem l8t_any (B : Nat) (w : World) (cv : Value) (len : Nat) (hl : len ≤ 1048576) (hc : CodeB B w cv len) (hB : B ≤ w.heap.size) :
    Calls Tryz.prog 31 #[cv] w (DrawnMWW w) := by
  have HN := Lib.hid (new_any B w cv len hl hB hc)
  clear hc
  go_enter Tryz.func31, Tryz.ntmps31
  go_wp2_with fail
  refine HN.out.mono ?_
  rintro e w1 ⟨rfl, hd, hg⟩
  have HG := Lib.hid hg
  have hs1 := hg.size
  have hC1 := hd.lt
  have HA := Lib.hid (any_any B w.heap.size w1 cv len hd)
  clear hd hg HN
  go_wp2_with fail
  refine HA.out.mono ?_
  rintro e w2 ⟨x, a, rfl, hd2, hx, ha⟩
  have HD2 := Lib.hid hd2
  have HX := Lib.hid hx
  have HAM := Lib.hid ha
  have hs2 := hd2.2.size
  obtain ⟨xa, xcap, rfl⟩ := hx.mat.slice
  have hn5 := ha.1
  clear hd2 hx ha HA
  generalize hn : a.length = n at *
  have HLN := Lib.hid hn; clear hn
  have HW := Lib.hid (l5w_any B w.heap.size w2 cv len HD2.out.1 xa n xcap (by omega) 7 (by omega))
  go_wp2_with fail
  refine HW.out.mono ?_
  rintro e w3 ⟨y, l, rfl, hd3, hy, hll⟩
  have HD3 := Lib.hid (HD2.out.trans hd3)
  have HX3 := Lib.hid (HX.out.drawn hC1 hd3)
  have HY := Lib.hid hy
  have hs3 := hd3.2.size
  clear hd3 hy HW HX HD2
  have HW2 := Lib.hid (l5w_any B w.heap.size w3 cv len HD3.out.1 xa n xcap (by omega) 7 (by omega))
  go_wp2_with fail
  refine HW2.out.mono ?_
  rintro e w4 ⟨z, l', rfl, hd4, hz, hll'⟩
  have HD4 := Lib.hid (HD3.out.trans hd4)
  have HX4 := Lib.hid (HX3.out.drawn hC1 hd4)
  have HY4 := Lib.hid ((HY.out.1).drawn (C := w.heap.size) (by omega) hd4)
  have HZ := Lib.hid hz
  have hs4 := hd4.2.size
  clear hd4 hz HW2 HX3 HD3 HY
  go_wp2_with fail
  refine (once_any B w.heap.size _ cv len 3 (by omega) (by omega) HD4.out.1).mono ?_
  rintro e w5 ⟨q, rfl, hd5⟩
  have HD5 := Lib.hid (HD4.out.trans hd5)
  have HX5 := Lib.hid (HX4.out.drawn hC1 hd5)
  have HY5 := Lib.hid (HY4.out.drawn (C := w.heap.size) (by omega) hd5)
  have HZ5 := Lib.hid ((HZ.out.1).drawn (C := w.heap.size) (by omega) hd5)
  have hs5 := hd5.2.size
  have HB5 := Lib.hid (draw_below HG.out HD5.out)
  clear hd5 HX4 HY4 HZ HD4
  obtain ⟨ya, ycap, rfl⟩ := HY5.out.slice
  have HLL := Lib.hid hll
  generalize hyn : l.length = yn at *
  have HYN := Lib.hid hyn; clear hyn
  cases q with
  | false =>
    go_wp2_with fail
    go_ret3
    exact ⟨_, _, z, a, l, l', rfl, HB5.out, HX5.out.grow.wide (by omega), HAM.out, ⟨HY5.out.mono (by omega) (Nat.le_refl _), Nat.le_refl _⟩, by have := HYN.out; have := HLL.out; omega, ⟨HZ5.out.mono (by omega) (Nat.le_refl _), Nat.le_refl _⟩, by omega⟩
  | true =>
    have HIW := Lib.hid (isws_any w5.heap.size w5.heap.size (.slice xa n xcap) (.slice ya yn ycap) a l w5 HX5.out.grow.mat HY5.out.rowB HAM.out.fit (by have := HYN.out; have := HLL.out; unfold maxLen; omega))
    by_cases hW : IsW a l
    · have HWB := Lib.hid (wordB_yes hW)
      rw [HWB.out] at HIW
      have HNR := Lib.hid (fun (wx : World) (hb : Below w5.heap.size w5 wx) => nrm8_any w5.heap.size w5.heap.size (.slice xa n xcap) (.slice ya yn ycap) a l wx (HX5.out.grow.mat.below hb (Nat.le_refl _)) (HY5.out.rowB.below hb (Nat.le_refl _)) hb.size hb.size HAM.out.fit hW.2.1 hW.1 (by have := HYN.out; have := HLL.out; omega))
      have HFL := Lib.hid (frmI_len a 31 (imgW a l))
      clear hW HWB
      generalize frmI a 31 (imgW a l) = R at *
      go_wp2_with fail
      refine HIW.out.mono ?_
      rintro e w6 ⟨rfl, q6, rfl⟩
      have hb6 : Below w5.heap.size w5 (w5.drewN q6) := below_drewN q6
      have HC6 := Lib.hid (HNR.out _ hb6)
      have HB6 := Lib.hid hb6
      clear HIW HNR hb6
      go_wp2_with fail
      refine HC6.out.mono ?_
      rintro e w7 ⟨z7, rfl, ⟨hz7, _⟩, hb7⟩
      have hb57 : Below w5.heap.size w5 w7 := HB6.out.trans hb7
      have HZ7 := Lib.hid hz7
      have HB7 := Lib.hid (HB5.out.trans (hb57.mono HB5.out.size))
      have HX7 := Lib.hid ((HX5.out.grow.same (SameIn.of_below hb57 (Nat.le_refl _)) hb57.size).grow)
      have HY7 := Lib.hid (HY5.out.step hb57)
      have hs7 := hb57.size
      clear hz7 hb7 hb57 HC6
      go_wp2_with fail
      go_ret3
      exact ⟨_, _, z7, a, l, R, rfl, HB7.out, HX7.out.wide (by omega), HAM.out, ⟨HY7.out.mono (by omega) (Nat.le_refl _), Nat.le_refl _⟩, by have := HYN.out; have := HLL.out; omega, ⟨HZ7.out.mono HB5.out.size (Nat.le_refl _), Nat.le_refl _⟩, HFL.out⟩
    · have HWB := Lib.hid (wordB_no hW)
      rw [HWB.out] at HIW
      clear hW HWB
      go_wp2_with fail
      refine HIW.out.mono ?_
      rintro e w6 ⟨rfl, q6, rfl⟩
      have hb6 : Below w5.heap.size w5 (w5.drewN q6) := below_drewN q6
      have HB6 := Lib.hid (HB5.out.trans (hb6.mono HB5.out.size))
      have HX6 := Lib.hid ((HX5.out.grow.same (SameIn.of_below hb6 (Nat.le_refl _)) hb6.size).grow)
      have HY6 := Lib.hid (HY5.out.step hb6)
      have HZ6 := Lib.hid (HZ5.out.step hb6)
      clear hb6 HIW
      go_wp2_with fail
      go_ret3
      exact ⟨_, _, z, a, l, l', rfl, HB6.out, HX6.out.wide (by omega), HAM.out, ⟨HY6.out.mono (by omega) (Nat.le_refl _), Nat.le_refl _⟩, by have := HYN.out; have := HLL.out; omega, ⟨HZ6.out.mono (by omega) (Nat.le_refl _), Nat.le_refl _⟩, by omega⟩
/-! ### Is a number in a list? -/
def HasTo (l : List Int) (x : Int) (k : Nat) : Prop := ∀ j, j < k → l.getD j 0 ≠ x
end Go.Proofs.YtnlbmnielemgiaaGreat
namespace Go.Proofs.YtnlbmnielemgiaaGreat
open Go.RowKit

theorem lit_row (w : World) (k : Nat) : RowB (w.alloc (.cells #[.int .i64 (k : Int)] 3)).heap.size (w.alloc (.cells #[.int .i64 (k : Int)] 3)) (.slice (some ⟨w.heap.size, 0, none⟩) 1 1) [(k : Int)] := by
  refine Or.inr ⟨w.heap.size, 0, 1, rfl, by simp, fun j hj => ?_⟩
  obtain rfl : j = 0 := by simp at hj; omega
  rw [Nat.zero_add, cell_of_row _ w.heap.size 0 _ _ _ (MapKept.heap_alloc w _).1]
  rfl
/-- A matrix and a word of at most 31 letters. -/
def DrawnML (w : World) (e : Ending) (w' : World) : Prop :=
  ∃ x y a l, e = .returned (.tuple #[x, y]) ∧ Below w.heap.size w w' ∧ OwnK w.heap.size w'.heap.size w' x a ∧ AnyM a ∧ OwnS w.heap.size w'.heap.size w' y l ∧ l.length ≤ 31
/-- A matrix, a word and a number. -/
def DrawnMN (w : World) (e : Ending) (w' : World) : Prop :=
  ∃ x y z a l, e = .returned (.tuple #[x, y, .int .i64 z]) ∧ Below w.heap.size w w' ∧ OwnK w.heap.size w'.heap.size w' x a ∧ AnyM a ∧ OwnS w.heap.size w'.heap.size w' y l ∧ l.length ≤ 12
set_option maxRecDepth 100000 in
theorem drawMe_any (B : Nat) (w : World) (cv : Value) (len : Nat) (hl : len ≤ 1048576) (hc : CodeB B w cv len) (hB : B ≤ w.heap.size) :
    Calls Tryz.prog 5 #[cv] w (DrawnMWW w) := by
  have HN := Lib.hid (l8t_any B w cv len hl hc hB)
  clear hc
  go_enter Tryz.func5, Tryz.ntmps5
  go_wp2_with fail
  refine HN.out.mono ?_
  rintro e w1 ⟨x, y, z, m, a, b, rfl, h1, h2, h3, h4, h5, h6, h7⟩
  have H1 := Lib.hid h1; have H2 := Lib.hid h2; have H3 := Lib.hid h3; have H4 := Lib.hid h4; have H5 := Lib.hid h5; have H6 := Lib.hid h6; have H7 := Lib.hid h7
  clear h1 h2 h3 h4 h5 h6 h7
  go_wp2_with fail
  go_ret3
  exact ⟨x, y, z, m, a, b, rfl, H1.out, H2.out, H3.out, H4.out, H5.out, H6.out, H7.out⟩
set_option maxRecDepth 100000 in
theorem drawCe_any (B : Nat) (w : World) (cv : Value) (len : Nat) (hl : len ≤ 1048576) (hc : CodeB B w cv len) (hB : B ≤ w.heap.size) :
    Calls Tryz.prog 19 #[cv] w (DrawnMWW w) := by
  have HN := Lib.hid (l8t_any B w cv len hl hc hB)
  clear hc
  go_enter Tryz.func19, Tryz.ntmps19
  go_wp2_with fail
  refine HN.out.mono ?_
  rintro e w1 ⟨x, y, z, m, a, b, rfl, h1, h2, h3, h4, h5, h6, h7⟩
  have H1 := Lib.hid h1; have H2 := Lib.hid h2; have H3 := Lib.hid h3; have H4 := Lib.hid h4; have H5 := Lib.hid h5; have H6 := Lib.hid h6; have H7 := Lib.hid h7
  clear h1 h2 h3 h4 h5 h6 h7
  go_wp2_with fail
  go_ret3
  exact ⟨x, y, z, m, a, b, rfl, H1.out, H2.out, H3.out, H4.out, H5.out, H6.out, H7.out⟩
set_option maxRecDepth 100000 in
theorem drawVe_any (B : Nat) (w : World) (cv : Value) (len : Nat) (hl : len ≤ 1048576) (hc : CodeB B w cv len) (hB : B ≤ w.heap.size) :
    Calls Tryz.prog 22 #[cv] w (DrawnMW w) := by
  have HN := Lib.hid (l5a_any B w cv len hl hc hB)
  clear hc
  go_enter Tryz.func22, Tryz.ntmps22
  go_wp2_with fail
  refine HN.out.mono ?_
  rintro e w1 ⟨x, y, a, l, rfl, h1, h2, h3, h4, h5⟩
  have H1 := Lib.hid h1; have H2 := Lib.hid h2; have H3 := Lib.hid h3; have H4 := Lib.hid h4; have H5 := Lib.hid h5
  clear h1 h2 h3 h4 h5
  go_wp2_with fail
  go_ret2
  exact ⟨x, y, a, l, rfl, H1.out, H2.out, H3.out, H4.out, H5.out⟩
set_option maxRecDepth 100000 in
theorem drawEe_any (a0 : Option Addr) (len cap : Nat) (B : Nat) (w : World) (hl : len ≤ 1048576) (hc : CodeB B w (.slice a0 len cap) len) (hB : B ≤ w.heap.size) :
    Calls Tryz.prog 25 #[.slice a0 len cap] w (DrawnML w) := by
  have HN := Lib.hid (l8t_any B w (.slice a0 len cap) len hl hc hB)
  clear hc
  rcases Nat.mod_two_eq_zero_or_one len with h0 | h0
  · have hm : (len : Int).tmod 2 = 0 := by rw [Int.tmod_eq_emod_of_nonneg (by omega)]; omega
    have hm2 : (len : Int) % 2 = 0 := by omega
    have hz : ((len : Int).tmod 2 == 0) = true := by rw [hm]; rfl
    go_enter Tryz.func25, Tryz.ntmps25
    go_wp2_with fail
    refine HN.out.mono ?_
    rintro e w1 ⟨x, y, z, m, a, b, rfl, h1, h2, h3, h4, h5, h6, h7⟩
    have H1 := Lib.hid h1; have H2 := Lib.hid h2; have H3 := Lib.hid h3; have H4 := Lib.hid h4; have H5 := Lib.hid h5; have H6 := Lib.hid h6; have H7 := Lib.hid h7
    clear h1 h2 h3 h4 h5 h6 h7
    go_wp2_with fail
    go_ret2
    exact ⟨x, z, m, b, rfl, H1.out, H2.out, H3.out, H6.out, H7.out⟩
  · have hm : (len : Int).tmod 2 = 1 := by rw [Int.tmod_eq_emod_of_nonneg (by omega)]; omega
    have hm2 : (len : Int) % 2 = 1 := by omega
    have hz : ((len : Int).tmod 2 == 0) = false := by rw [hm]; rfl
    go_enter Tryz.func25, Tryz.ntmps25
    go_wp2_with fail
    refine HN.out.mono ?_
    rintro e w1 ⟨x, y, z, m, a, b, rfl, h1, h2, h3, h4, h5, h6, h7⟩
    have H1 := Lib.hid h1; have H2 := Lib.hid h2; have H3 := Lib.hid h3; have H4 := Lib.hid h4; have H5 := Lib.hid h5; have H6 := Lib.hid h6; have H7 := Lib.hid h7
    clear h1 h2 h3 h4 h5 h6 h7
    go_wp2_with fail
    go_ret2
    exact ⟨x, y, m, a, rfl, H1.out, H2.out, H3.out, H4.out, by have := H5.out; omega⟩
set_option maxHeartbeats 4000000 in
set_option maxRecDepth 100000 in
theorem drawPe_any (B : Nat) (w : World) (cv : Value) (len : Nat) (hl : len ≤ 1048576) (hc : CodeB B w cv len) (hB : B ≤ w.heap.size) :
    Calls Tryz.prog 16 #[cv] w (DrawnMN w) := by
  have HN := Lib.hid (new_any B w cv len hl hB hc)
  clear hc
  go_enter Tryz.func16, Tryz.ntmps16
  go_wp2_with fail
  refine HN.out.mono ?_
  rintro e w1 ⟨rfl, hd, hg⟩
  have HG := Lib.hid hg
  have hs1 := hg.size
  have hC1 := hd.lt
  have HA := Lib.hid (any_any B w.heap.size w1 cv len hd)
  clear hd hg HN
  go_wp2_with fail
  refine HA.out.mono ?_
  rintro e w2 ⟨x, a, rfl, hd2, hx, ha⟩
  have HD2 := Lib.hid hd2
  have HX := Lib.hid hx
  have HAM := Lib.hid ha
  have hs2 := hd2.2.size
  obtain ⟨xa, xcap, rfl⟩ := hx.mat.slice
  have hn5 := ha.1
  clear hd2 hx ha HA
  generalize hn : a.length = n at *
  have HLN := Lib.hid hn; clear hn
  have HW := Lib.hid (l5w_any B w.heap.size w2 cv len HD2.out.1 xa n xcap (by omega) 4 (by omega))
  go_wp2_with fail
  refine HW.out.mono ?_
  rintro e w3 ⟨y, l, rfl, hd3, hy, hll⟩
  have HD3 := Lib.hid (HD2.out.trans hd3)
  have HX3 := Lib.hid (HX.out.drawn hC1 hd3)
  have HY := Lib.hid hy
  have hs3 := hd3.2.size
  clear hd3 hy HW HX HD2
  have hba : Below w3.heap.size w3 (w3.alloc (.cells (intsV [-1, 0, 1, 2, 3, 6, 60, 61]).toArray 3)) := (Below.refl _ _).alloc (Nat.le_refl _) _
  have HXA := Lib.hid (HX3.out.up hba)
  have HYA := Lib.hid (HY.out.1.step hba)
  have HDA := Lib.hid (HD3.out.past (hba.mono (by omega)) hC1)
  have HLT := Lib.hid (show (w3.alloc (.cells (intsV [-1, 0, 1, 2, 3, 6, 60, 61]).toArray 3)).heap[w3.heap.size]? = some (.cells (intsV [-1, 0, 1, 2, 3, 6, 60, 61]).toArray 3 (0, 0)) from (MapKept.heap_alloc w3 _).1)
  have hne : w3.heap.size ≠ w.heap.size := by omega
  clear hba
  go_wp2_with fail
  refine (picki_any B w.heap.size _ cv len w3.heap.size [-1, 0, 1, 2, 3, 6, 60, 61] 8 rfl (by omega) (by omega) HLT.out hne HDA.out.1).mono ?_
  rintro e w4 ⟨z, rfl, hd4⟩
  have HB := Lib.hid (draw_below HG.out (HDA.out.trans hd4))
  have HX4 := Lib.hid (HXA.out.drawn hC1 hd4)
  have HY4 := Lib.hid (HYA.out.drawn (C := w.heap.size) (by omega) hd4)
  have hs4 := hd4.2.size
  clear hd4
  go_wp2_with fail
  go_ret3
  exact ⟨_, y, z, a, l, rfl, HB.out, HX4.out.grow.wide (by omega), HAM.out, ⟨HY4.out.mono (by omega) (Nat.le_refl _), Nat.le_refl _⟩, by omega⟩
set_option maxHeartbeats 4000000 in
set_option maxRecDepth 100000 in
theorem drawIo_any (B : Nat) (w : World) (cv : Value) (len : Nat) (hl : len ≤ 1048576) (hc : CodeB B w cv len) (hB : B ≤ w.heap.size) :
    Calls Tryz.prog 24 #[cv] w (DrawnML w) := by
  have HN := Lib.hid (new_any B w cv len hl hB hc)
  clear hc
  go_enter Tryz.func24, Tryz.ntmps24
  go_wp2_with fail
  refine HN.out.mono ?_
  rintro e w1 ⟨rfl, hd, hg⟩
  have HG := Lib.hid hg
  have hs1 := hg.size
  have hC1 := hd.lt
  have HA := Lib.hid (any_any B w.heap.size w1 cv len hd)
  clear hd hg HN
  go_wp2_with fail
  refine HA.out.mono ?_
  rintro e w2 ⟨x, a, rfl, hd2, hx, ha⟩
  have HD2 := Lib.hid hd2
  have HX := Lib.hid hx
  have HAM := Lib.hid ha
  have hs2 := hd2.2.size
  obtain ⟨xa, xcap, rfl⟩ := hx.mat.slice
  have hn5 := ha.1
  clear hd2 hx ha HA
  generalize hn : a.length = n at *
  have HLN := Lib.hid hn; clear hn
  have HW := Lib.hid (l5w_any B w.heap.size w2 cv len HD2.out.1 xa n xcap (by omega) 3 (by omega))
  go_wp2_with fail
  refine HW.out.mono ?_
  rintro e w3 ⟨y, l, rfl, hd3, hy, hll⟩
  have HD3 := Lib.hid (HD2.out.trans hd3)
  have HX3 := Lib.hid (HX.out.drawn hC1 hd3)
  have HY := Lib.hid hy
  have hs3 := hd3.2.size
  clear hd3 hy HW HX HD2
  go_wp2_with fail
  refine (once_any B w.heap.size _ cv len 2 (by omega) (by omega) HD3.out.1).mono ?_
  rintro e w4 ⟨q, rfl, hd4⟩
  have HD4 := Lib.hid (HD3.out.trans hd4)
  have HX4 := Lib.hid (HX3.out.drawn hC1 hd4)
  have HY4 := Lib.hid ((HY.out.1).drawn (C := w.heap.size) (by omega) hd4)
  have hs4 := hd4.2.size
  clear hd4 HX3 HY HD3
  cases q with
  | false =>
    go_wp2_with fail
    go_ret2
    exact ⟨_, y, a, l, rfl, draw_below HG.out HD4.out, HX4.out.grow.wide (by omega), HAM.out, ⟨HY4.out.mono (by omega) (Nat.le_refl _), Nat.le_refl _⟩, by omega⟩
  | true =>
    by_cases hn0 : 0 < n
    case neg =>
      have hdn : decide ((0 : Int) < (n : Int)) = false := decide_eq_false (by omega)
      have hdp : ¬ (0 : Int) < (n : Int) := by omega
      go_wp2_with fail
      go_ret2
      exact ⟨_, y, a, l, rfl, draw_below HG.out HD4.out, HX4.out.grow.wide (by omega), HAM.out, ⟨HY4.out.mono (by omega) (Nat.le_refl _), Nat.le_refl _⟩, by omega⟩
    case pos =>
      have hdn : decide ((0 : Int) < (n : Int)) = true := decide_eq_true (by omega)
      have hdp : (0 : Int) < (n : Int) := by omega
      have HBL := Lib.hid (fun (wx : World) (hx : Dr B w.heap.size cv len wx) => below_any B w.heap.size wx cv len n (by omega) (by omega) hx)
      go_wp2_with fail
      refine (HBL.out _ HD4.out.1).mono ?_
      rintro e w5 ⟨r, hr, rfl, hd5⟩
      have HB5 := Lib.hid (draw_below HG.out (HD4.out.trans hd5))
      have HX5 := Lib.hid ((HX4.out.drawn hC1 hd5).grow)
      have HY5 := Lib.hid (HY4.out.drawn (C := w.heap.size) (by omega) hd5)
      have hs5 := hd5.2.size
      clear hd5 HX4 HY4 HD4 HBL
      have hba : Below w5.heap.size w5 (w5.alloc (.cells #[.int .i64 (r : Int)] 3)) := (Below.refl _ _).alloc (Nat.le_refl _) _
      have HL1 := Lib.hid (lit_row w5 r)
      have HX6 := Lib.hid (HX5.out.up hba)
      have HY6 := Lib.hid (HY5.out.step hba)
      have HB6 := Lib.hid (HB5.out.trans (hba.mono HB5.out.size))
      have hs6 := hba.size
      clear hba HX5 HY5 HB5
      go_wp2_with fail
      refine (cats_any _ _ _ _ l [(r : Int)] _ HY6.out.rowB HL1.out (Nat.le_refl _) (Nat.le_refl _) (by omega) (by simp)).mono ?_
      rintro e w7 ⟨z, rfl, hz, hb⟩
      have HZ := Lib.hid hz.1.rowB
      have HX7 := Lib.hid (HX6.out.up hb); have HY7 := Lib.hid (HY6.out.step hb)
      have HB7 := Lib.hid (HB6.out.trans (hb.mono HB6.out.size))
      clear hz hb HX6 HY6 HB6 HL1
      go_wp2_with fail
      refine (revs_any _ _ l _ HY7.out.rowB (Nat.le_refl _) (by omega)).mono ?_
      rintro e w8 ⟨u, rfl, hu, hb⟩
      have HU := Lib.hid hu.1.rowB
      have HX8 := Lib.hid (HX7.out.up hb); have HZ8 := Lib.hid (HZ.out.upE hb)
      have HB8 := Lib.hid (HB7.out.trans (hb.mono HB7.out.size))
      clear hu hb HX7 HY7 HB7 HZ
      go_wp2_with fail
      refine (cats_any _ _ _ _ (l ++ [(r : Int)]) l.reverse _ HZ8.out HU.out (Nat.le_refl _) (Nat.le_refl _) (by simp; omega) (by simp; omega)).mono ?_
      rintro e w9 ⟨t, rfl, ht, hb⟩
      have HT := Lib.hid (ht.1.mono HB8.out.size (Nat.le_refl _))
      have HX9 := Lib.hid (HX8.out.up hb)
      have HB9 := Lib.hid (HB8.out.trans (hb.mono HB8.out.size))
      clear ht hb HX8 HB8 HZ8 HU
      go_wp2_with fail
      go_ret2
      exact ⟨_, t, a, _, rfl, HB9.out, HX9.out.wide (by omega), HAM.out, ⟨HT.out, Nat.le_refl _⟩, by simp; omega⟩
end Go.Proofs.YtnlbmnielemgiaaGreat
namespace Go.Proofs.YtnlbmnielemgiaaGreat
open Go.RowKit

set_option maxHeartbeats 1000000 in
theorem smS_any (B : Nat) (v v' : Value) (l l' : List Int) (w : World) (h : RowB B w v l) (h' : RowB B w v' l') (hl : l.length ≤ maxLen) (hl' : l'.length ≤ maxLen) :
    Calls Tryz.prog 8 #[v, v'] w fun e w' => e = .returned (.bool (eqL l l')) ∧ ∃ q, w' = w.drewN q := by
  obtain ⟨a, cap, rfl⟩ := h.slice
  obtain ⟨a', cap', rfl⟩ := h'.slice
  have HR := Lib.hid h; clear h
  have HR' := Lib.hid h'; clear h'
  generalize hn : l.length = n at *
  generalize hn' : l'.length = n' at *
  unfold maxLen at hl hl'
  have HN := Lib.hid hn; clear hn
  have HN' := Lib.hid hn'; clear hn'
  by_cases hlen : n = n'
  · subst hlen
    go_enter Tryz.func8, Tryz.ntmps8
    go_wp2_with fail
    go_loopw [5] (fun i wr => ∃ (k q : Nat), k ≤ n ∧ i = .int .i64 k ∧ wr = w.drewN q ∧ Pre l l' k) (fun i _ => n - (intOf i).toNat)
    case atStart => exact ⟨0, 0, Nat.zero_le _, rfl, rfl, rfl⟩
    case round =>
      obtain ⟨k, q, hk, rfl, rfl, hp⟩ := hrel
      have HP := Lib.hid hp; clear hp
      by_cases hlt : k < n
      · obtain ⟨b, off, hkl, rfl, hb, hc⟩ := HR.out.get hlt
        obtain ⟨b', off', hkl', rfl, hb', hc'⟩ := HR'.out.get hlt
        by_cases he : l[k] = l'[k]
        · have hst := pre_step hkl hkl' HP.out he
          have HST := Lib.hid hst; clear hst
          rw [← he] at hc'
          clear he
          generalize l[k] = x at *
          go_wp2_with fail
          go_quiet (fail)
          go_wp2_with fail
          exact ⟨⟨k + 1, q + nq, by omega, by go_num, rfl, HST.out⟩, by simp [intOf]; omega⟩
        · have hne : ¬ l = l' := fun e => he (by subst e; rfl)
          have hv := eqL_no hne
          have HV := Lib.hid hv; clear hv hne
          generalize hx : l[k] = x at *
          generalize hy : l'[k] = y at *
          have hxy : (x != y) = true := by rw [bne_iff_ne]; exact he
          have hxy' : (x == y) = false := by rw [beq_eq_false_iff_ne]; exact he
          clear hx hy he
          go_wp2_with fail
          go_quiet (fail)
          go_wp2_with fail
          go_ret
          exact ⟨ret_boolean HV.out.symm, q + nq, World.drewN_drewN _ _ _⟩
      · obtain rfl : k = n := by omega
        have heq : l = l' := by
          have h1 := HP.out
          unfold Pre at h1
          rw [List.take_of_length_le (by rw [HN.out]; exact Nat.le_refl _), List.take_of_length_le (by rw [HN'.out]; exact Nat.le_refl _)] at h1
          exact h1
        have hv := eqL_yes heq
        have HV := Lib.hid hv; clear hv heq
        go_wp2_with fail
        go_ret
        exact ⟨ret_boolean HV.out.symm, _, rfl⟩
  · have hne : ¬ l = l' := fun e => hlen (by rw [← HN.out, ← HN'.out, e])
    have hv := eqL_no hne
    have HV := Lib.hid hv; clear hv hne
    have hq : ((n : Int) != (n' : Int)) = true := by rw [bne_iff_ne]; omega
    clear hlen
    go_enter Tryz.func8, Tryz.ntmps8
    go_wp2_with fail
    all_goals go_ret
    all_goals exact ⟨ret_boolean HV.out.symm, 0, rfl⟩

/-! ### inList -/
def inB2 (T : List (List Int)) (p : List Int) : Bool := decide (p ∈ T)
end Go.Proofs.YtnlbmnielemgiaaGreat
