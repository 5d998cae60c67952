/-
  Lengths: what the model's OrderOfElement returns.
  The determinant by choosing a column for each row (no walk here): the sum over the columns that are left is the expansion along the first row.
-/
import Derived.Test.YtnlbmnielemgiaaFl20
import Derived.Test.YtnlbmnielemgiaaFl15
import Derived.Test.YtnlbmnielemgiaaFl29
import Derived.Test.YtnlbmnielemgiaaFl26
namespace Go.Proofs.Ytnlbmnielemgiaa
open Go.RowKit

noncomputable def ordI (m : List (List Int)) (ws : List Int) : Int := if wordB m ws = true then (if (decide (7 < (nrmL m ws).length) && !finB m) = true then 0 else ordS m (nrmL m ws) 60 1 (imgW m ws)) else 0
theorem letTo_append {n : Nat} {a b : List Int} (ha : LetTo n a a.length) (hb : LetTo n b b.length) : LetTo n (a ++ b) (a ++ b).length := by
  intro j hj
  rw [List.length_append] at hj
  rcases Nat.lt_or_ge j a.length with h | h
  · have := ha j h
    have e : (a ++ b).getD j 0 = a.getD j 0 := by rw [List.getD_eq_getElem?_getD, List.getD_eq_getElem?_getD, List.getElem?_append_left h]
    rw [e]; exact this
  · have := hb (j - a.length) (by omega)
    have e : (a ++ b).getD j 0 = b.getD (j - a.length) 0 := by rw [List.getD_eq_getElem?_getD, List.getD_eq_getElem?_getD, List.getElem?_append_right h]
    rw [e]; exact this
set_option maxHeartbeats 4000000 in
set_option maxRecDepth 100000 in
theorem ords_yes (B B' : Nat) (v v' : Value) (m : List (List Int)) (ws : List Int) (w : World) (h : MatB B w v m) (h' : RowB B' w v' ws) (hB : B ≤ w.heap.size) (hB' : B' ≤ w.heap.size) (hf : RowsFit m) (hw : ws.length ≤ 1048576) (hW : IsW m ws) (fin : Bool) (hfin : finB m = fin) (hgo : (decide (7 < (nrmL m ws).length) && !fin) = false) :
    Calls Try.prog 37 #[v, v'] w fun e w' => e = .returned (.int .i64 (ordS m (nrmL m ws) 60 1 (imgW m ws))) ∧ Below w.heap.size w w' := by
  have HN := Lib.hid (nrms_any B B' v v' m ws w h h' hB hB' hf hw)
  rw [wordB_yes hW] at HN
  have HFN := Lib.hid (fun (wx : World) (hb : Below w.heap.size w wx) => fins_any B v m wx (h.below hb hB) (Nat.le_trans hB hb.size) hf)
  rw [hfin] at HFN
  have hx15 : (nrmL m ws).length ≤ 15 := Nat.le_trans (nrm_le hW).1 hW.2.2
  have hxl := (nrm_word hW).1
  have HPS := Lib.hid (pow_start hW)
  have HF0 := Lib.hid (nrmL_yes hW)
  have HNX := Lib.hid (fun (p : List Int) (hp : PowI m (nrmL m ws) p) (h15 : (frmI m 31 p).length ≤ 15) => pow_next hW.2.1 hxl hx15 hp h15)
  have HNR := Lib.hid (fun (p : List Int) (hp : PowI m (nrmL m ws) p) (h15 : (frmI m 31 p).length ≤ 15) (z : Value) (wx : World) (hb : Below w.heap.size w wx) (hz : RowB wx.heap.size wx z (frmI m 31 p ++ nrmL m ws)) => show Calls Try.prog 65 #[v, z] wx (MakesS wx (frmI m 31 (actW m (nrmL m ws) p))) from by
    rw [(pow_next hW.2.1 hxl hx15 hp h15).1]
    exact nrm8_any B wx.heap.size v z m (frmI m 31 p ++ nrmL m ws) wx (h.below hb hB) hz (Nat.le_trans hB hb.size) (Nat.le_refl _) hf hW.2.1 (letTo_append (letTo_form hp.len) hxl) (by rw [List.length_append]; omega))
  have HZ := Lib.hid (fun k p => ordS_zero m (nrmL m ws) k p)
  have HO1 := Lib.hid (fun (f k : Nat) (p : List Int) (h : (frmI m 31 p).length = 0) => ordS_one (m := m) (x := nrmL m ws) (f := f) (k := k) h)
  have HOF := Lib.hid (fun (f k : Nat) (p : List Int) (h : 15 < (frmI m 31 p).length) => ordS_far (m := m) (x := nrmL m ws) (f := f) (k := k) h)
  have HOM := Lib.hid (fun (f k : Nat) (p : List Int) (h0 : (frmI m 31 p).length ≠ 0) (h : ¬ 15 < (frmI m 31 p).length) => ordS_more (m := m) (x := nrmL m ws) (f := f) (k := k) h0 h)
  have hgo' := hgo
  generalize nrmL m ws = x at *
  generalize hR : ordS m x 60 1 (imgW m ws) = R at *
  have HR0 := Lib.hid hR; clear hR
  obtain ⟨a, cap, rfl⟩ := h.slice
  obtain ⟨a', cap', rfl⟩ := h'.slice
  clear h h' hf hW hxl hfin hgo
  generalize ws.length = nw at *
  have HX15 := Lib.hid hx15
  generalize hxn : x.length = xn at *
  have HXN := Lib.hid hxn; clear hxn
  go_enter Try.func37, Try.ntmps37
  go_wp2_with fail
  refine HN.out.mono ?_
  rintro e w1 ⟨xv, rfl, ⟨hx, _⟩, hb1⟩
  obtain ⟨xa, xcap, rfl⟩ := hx.slice
  have HB1 := Lib.hid hb1
  have HXR := Lib.hid hx.rowB
  rw [HXN.out] at HXR ⊢
  have HFC := Lib.hid (HFN.out w1 hb1)
  clear hx hb1 HN HFN
-- (printed by mk_lse.py from here on)
  by_cases h7 : 7 < xn
  · have hd7 : decide (7 < xn) = true := decide_eq_true h7
    have hq7 : (7 : Int) < (xn : Int) := by omega
    have hr7 : decide ((7 : Int) < (xn : Int)) = true := decide_eq_true hq7
    have hft : fin = true := by cases fin with
      | true => rfl
      | false => rw [hd7] at hgo'; exact absurd hgo' (by simp)
    subst hft
    clear hgo' h7
    go_wp2_with fail
    refine HFC.out.mono ?_
    rintro e w2 ⟨rfl, hb2⟩
    have HBZ := Lib.hid (HB1.out.trans (hb2.mono HB1.out.size))
    have HXZ := Lib.hid ((HXR.out.below hb2 (Nat.le_refl _)).mono hb2.size)
    clear hb2 HFC HXR
    have hb0 : Below w2.heap.size w2 (w2.alloc (.cells #[] 3)) := (Below.refl _ _).alloc (Nat.le_refl _) _
    have HXB := Lib.hid (HXZ.out.below hb0 (Nat.le_refl _))
    have hs0 : w2.heap.size ≤ (w2.alloc (.cells #[] 3)).heap.size := by simp
    have hln : ([] : List Int).length + x.length ≤ 4194304 := by have := HXN.out; have := HX15.out; simp; omega
    have HLN := Lib.hid hln
    clear hb0 hln
    go_wp2_with (at_builtin; go_must (refine append_intsA (row_empty w2) hs0 HXB.out HLN.out rfl rfl rfl rfl ?_))
    intro v3 w3 hr3 hb3 hz3
    have hr3 : RowI w2.heap.size w3.heap.size w3 v3 x := by simpa using hr3
    have hb3' := hb3 w2 w2.heap.size (Nat.le_refl _) ((Below.refl _ _).alloc (Nat.le_refl _) _)
    have HR3 := Lib.hid (hr3.mono HBZ.out.size (Nat.le_refl _))
    have HB3 := Lib.hid (HBZ.out.trans (hb3'.mono HBZ.out.size))
    have HX3 := Lib.hid ((HXZ.out.below hb3' (Nat.le_refl _)).mono hb3'.size)
    clear hb3 hz3 hr3 hb3' hs0
    go_wp2_with fail
    go_loopw [7, 8] (fun y n wr => ∃ (k : Nat) (p : List Int) (wq : World), wq = wr ∧ 1 ≤ k ∧ k ≤ 61 ∧ n = .int .i64 k ∧ Hid (PowI m x p) ∧ Hid ((frmI m 31 p).length ≤ 15) ∧ RowI w.heap.size wq.heap.size wq y (frmI m 31 p) ∧ Hid (ordS m x (61 - k) k p = R) ∧ RowB wq.heap.size wq (.slice xa xn xcap) x ∧ Below w.heap.size w wq) (fun _ n _ => 61 - (intOf n).toNat)
    case atStart => exact ⟨1, imgW m ws, _, rfl, by omega, by omega, rfl, HPS, Lib.hid (by rw [← HF0.out]; have := HXN.out; have := HX15.out; omega), by rw [← HF0.out]; exact HR3.out, HR0, HX3.out, HB3.out⟩
    case round =>
      obtain ⟨k, p, wq, rfl, hk1, hk, rfl, HP, HPL, hY, HRQ, hX, hb⟩ := hrel
      have HY := Lib.hid hY; have HX := Lib.hid hX; have HB := Lib.hid hb
      have hsq := hb.size
      obtain ⟨ya, ycap, rfl⟩ := hY.slice
      clear hY hX hb
      by_cases hk60 : k ≤ 60
      · have hdk : decide ((k : Int) ≤ 60) = true := decide_eq_true (by omega)
        by_cases h0 : (frmI m 31 p).length = 0
        · have hv := HRQ.out
          rw [show 61 - k = (60 - k) + 1 by omega, HO1.out (60 - k) k p h0] at hv
          have HV := Lib.hid hv
          clear hv
          rw [h0]
          go_wp2_with fail
          go_ret
          exact ⟨by rw [← HV.out]; rfl, HB.out⟩
        · have HCT := Lib.hid (cats_any wq.heap.size wq.heap.size (.slice ya (frmI m 31 p).length ycap) (.slice xa xn xcap) (frmI m 31 p) x wq HY.out.rowB HX.out (Nat.le_refl _) (Nat.le_refl _) (by have := HPL.out; omega) (by have := HXN.out; have := HX15.out; omega))
          have HNC := Lib.hid (HNR.out p HP.out HPL.out)
          have HNW := Lib.hid (HNX.out p HP.out HPL.out).2
          have HPQ := Lib.hid (HOM.out (60 - k) k p h0 (by have := HPL.out; omega))
          have hz : (((frmI m 31 p).length : Int) == 0) = false := by rw [beq_eq_false_iff_ne]; omega
          generalize hyl : (frmI m 31 p).length = yl at *
          clear hyl
          go_wp2_with fail
          refine HCT.out.mono ?_
          rintro e w5 ⟨z, rfl, ⟨hz5, _⟩, hb5⟩
          have HB5 := Lib.hid (HB.out.trans (hb5.mono hsq))
          have HX5 := Lib.hid ((HX.out.below hb5 (Nat.le_refl _)).mono hb5.size)
          have HN5 := Lib.hid (HNC.out z w5 HB5.out hz5.rowB)
          clear hz5 hb5 HCT HNC
          go_wp2_with fail
          refine HN5.out.mono ?_
          rintro e w6 ⟨y6, rfl, ⟨hy6, _⟩, hb6⟩
          have HB6 := Lib.hid (HB5.out.trans (hb6.mono HB5.out.size))
          have HX6 := Lib.hid ((HX5.out.below hb6 (Nat.le_refl _)).mono hb6.size)
          have HY6 := Lib.hid (hy6.mono HB5.out.size (Nat.le_refl _))
          obtain ⟨ya6, ycap6, rfl⟩ := hy6.slice
          clear hy6 hb6 HN5
          have hrq := HRQ.out
          rw [show 61 - k = (60 - k) + 1 by omega, HPQ.out] at hrq
          by_cases h15 : 15 < (frmI m 31 (actW m x p)).length
          · rw [HOF.out (60 - k) (k + 1) (actW m x p) h15] at hrq
            have HV := Lib.hid hrq
            clear hrq
            have hd15 : decide (15 < (frmI m 31 (actW m x p)).length) = true := decide_eq_true h15
            have hq15 : (15 : Int) < ((frmI m 31 (actW m x p)).length : Int) := by omega
            have hr15 : decide ((15 : Int) < ((frmI m 31 (actW m x p)).length : Int)) = true := decide_eq_true hq15
            generalize (frmI m 31 (actW m x p)).length = yl6 at *
            go_wp2_with fail
            go_ret
            exact ⟨by rw [← HV.out]; rfl, HB6.out⟩
          · have HV := Lib.hid (show ordS m x (61 - (k + 1)) (k + 1) (actW m x p) = R from by rw [show 61 - (k + 1) = 60 - k by omega]; exact hrq)
            have HL6 : Hid ((frmI m 31 (actW m x p)).length ≤ 15) := Lib.hid (by omega)
            have hd15 : decide (15 < (frmI m 31 (actW m x p)).length) = false := decide_eq_false h15
            have hq15 : ¬ (15 : Int) < ((frmI m 31 (actW m x p)).length : Int) := by omega
            have hr15 : decide ((15 : Int) < ((frmI m 31 (actW m x p)).length : Int)) = false := decide_eq_false hq15
            clear hrq
            generalize hyl6 : (frmI m 31 (actW m x p)).length = yl6 at *
            have HE6 := Lib.hid hyl6; clear hyl6
            go_wp2_with fail
            exact ⟨⟨k + 1, actW m x p, _, rfl, by omega, by omega, by go_num, HNW, Lib.hid (by rw [HE6.out]; exact HL6.out), HY6.out, HV, HX6.out, HB6.out⟩, by simp [intOf]; omega⟩
      · obtain rfl : k = 61 := by omega
        have hv := HRQ.out
        rw [Nat.sub_self, HZ.out] at hv
        have HV := Lib.hid hv
        clear hv
        go_wp2_with fail
        go_ret
        exact ⟨by rw [← HV.out]; rfl, HB.out⟩
  · have hd7 : decide (7 < xn) = false := decide_eq_false h7
    have hq7 : ¬ (7 : Int) < (xn : Int) := by omega
    have hr7 : decide ((7 : Int) < (xn : Int)) = false := decide_eq_false hq7
    clear hgo' h7
    have HBZ := Lib.hid HB1.out
    have HXZ := Lib.hid HXR.out
    clear HFC HXR
    have hb0 : Below w1.heap.size w1 (w1.alloc (.cells #[] 3)) := (Below.refl _ _).alloc (Nat.le_refl _) _
    have HXB := Lib.hid (HXZ.out.below hb0 (Nat.le_refl _))
    have hs0 : w1.heap.size ≤ (w1.alloc (.cells #[] 3)).heap.size := by simp
    have hln : ([] : List Int).length + x.length ≤ 4194304 := by have := HXN.out; have := HX15.out; simp; omega
    have HLN := Lib.hid hln
    clear hb0 hln
    go_wp2_with (at_builtin; go_must (refine append_intsA (row_empty w1) hs0 HXB.out HLN.out rfl rfl rfl rfl ?_))
    intro v3 w3 hr3 hb3 hz3
    have hr3 : RowI w1.heap.size w3.heap.size w3 v3 x := by simpa using hr3
    have hb3' := hb3 w1 w1.heap.size (Nat.le_refl _) ((Below.refl _ _).alloc (Nat.le_refl _) _)
    have HR3 := Lib.hid (hr3.mono HBZ.out.size (Nat.le_refl _))
    have HB3 := Lib.hid (HBZ.out.trans (hb3'.mono HBZ.out.size))
    have HX3 := Lib.hid ((HXZ.out.below hb3' (Nat.le_refl _)).mono hb3'.size)
    clear hb3 hz3 hr3 hb3' hs0
    go_wp2_with fail
    go_loopw [7, 8] (fun y n wr => ∃ (k : Nat) (p : List Int) (wq : World), wq = wr ∧ 1 ≤ k ∧ k ≤ 61 ∧ n = .int .i64 k ∧ Hid (PowI m x p) ∧ Hid ((frmI m 31 p).length ≤ 15) ∧ RowI w.heap.size wq.heap.size wq y (frmI m 31 p) ∧ Hid (ordS m x (61 - k) k p = R) ∧ RowB wq.heap.size wq (.slice xa xn xcap) x ∧ Below w.heap.size w wq) (fun _ n _ => 61 - (intOf n).toNat)
    case atStart => exact ⟨1, imgW m ws, _, rfl, by omega, by omega, rfl, HPS, Lib.hid (by rw [← HF0.out]; have := HXN.out; have := HX15.out; omega), by rw [← HF0.out]; exact HR3.out, HR0, HX3.out, HB3.out⟩
    case round =>
      obtain ⟨k, p, wq, rfl, hk1, hk, rfl, HP, HPL, hY, HRQ, hX, hb⟩ := hrel
      have HY := Lib.hid hY; have HX := Lib.hid hX; have HB := Lib.hid hb
      have hsq := hb.size
      obtain ⟨ya, ycap, rfl⟩ := hY.slice
      clear hY hX hb
      by_cases hk60 : k ≤ 60
      · have hdk : decide ((k : Int) ≤ 60) = true := decide_eq_true (by omega)
        by_cases h0 : (frmI m 31 p).length = 0
        · have hv := HRQ.out
          rw [show 61 - k = (60 - k) + 1 by omega, HO1.out (60 - k) k p h0] at hv
          have HV := Lib.hid hv
          clear hv
          rw [h0]
          go_wp2_with fail
          go_ret
          exact ⟨by rw [← HV.out]; rfl, HB.out⟩
        · have HCT := Lib.hid (cats_any wq.heap.size wq.heap.size (.slice ya (frmI m 31 p).length ycap) (.slice xa xn xcap) (frmI m 31 p) x wq HY.out.rowB HX.out (Nat.le_refl _) (Nat.le_refl _) (by have := HPL.out; omega) (by have := HXN.out; have := HX15.out; omega))
          have HNC := Lib.hid (HNR.out p HP.out HPL.out)
          have HNW := Lib.hid (HNX.out p HP.out HPL.out).2
          have HPQ := Lib.hid (HOM.out (60 - k) k p h0 (by have := HPL.out; omega))
          have hz : (((frmI m 31 p).length : Int) == 0) = false := by rw [beq_eq_false_iff_ne]; omega
          generalize hyl : (frmI m 31 p).length = yl at *
          clear hyl
          go_wp2_with fail
          refine HCT.out.mono ?_
          rintro e w5 ⟨z, rfl, ⟨hz5, _⟩, hb5⟩
          have HB5 := Lib.hid (HB.out.trans (hb5.mono hsq))
          have HX5 := Lib.hid ((HX.out.below hb5 (Nat.le_refl _)).mono hb5.size)
          have HN5 := Lib.hid (HNC.out z w5 HB5.out hz5.rowB)
          clear hz5 hb5 HCT HNC
          go_wp2_with fail
          refine HN5.out.mono ?_
          rintro e w6 ⟨y6, rfl, ⟨hy6, _⟩, hb6⟩
          have HB6 := Lib.hid (HB5.out.trans (hb6.mono HB5.out.size))
          have HX6 := Lib.hid ((HX5.out.below hb6 (Nat.le_refl _)).mono hb6.size)
          have HY6 := Lib.hid (hy6.mono HB5.out.size (Nat.le_refl _))
          obtain ⟨ya6, ycap6, rfl⟩ := hy6.slice
          clear hy6 hb6 HN5
          have hrq := HRQ.out
          rw [show 61 - k = (60 - k) + 1 by omega, HPQ.out] at hrq
          by_cases h15 : 15 < (frmI m 31 (actW m x p)).length
          · rw [HOF.out (60 - k) (k + 1) (actW m x p) h15] at hrq
            have HV := Lib.hid hrq
            clear hrq
            have hd15 : decide (15 < (frmI m 31 (actW m x p)).length) = true := decide_eq_true h15
            have hq15 : (15 : Int) < ((frmI m 31 (actW m x p)).length : Int) := by omega
            have hr15 : decide ((15 : Int) < ((frmI m 31 (actW m x p)).length : Int)) = true := decide_eq_true hq15
            generalize (frmI m 31 (actW m x p)).length = yl6 at *
            go_wp2_with fail
            go_ret
            exact ⟨by rw [← HV.out]; rfl, HB6.out⟩
          · have HV := Lib.hid (show ordS m x (61 - (k + 1)) (k + 1) (actW m x p) = R from by rw [show 61 - (k + 1) = 60 - k by omega]; exact hrq)
            have HL6 : Hid ((frmI m 31 (actW m x p)).length ≤ 15) := Lib.hid (by omega)
            have hd15 : decide (15 < (frmI m 31 (actW m x p)).length) = false := decide_eq_false h15
            have hq15 : ¬ (15 : Int) < ((frmI m 31 (actW m x p)).length : Int) := by omega
            have hr15 : decide ((15 : Int) < ((frmI m 31 (actW m x p)).length : Int)) = false := decide_eq_false hq15
            clear hrq
            generalize hyl6 : (frmI m 31 (actW m x p)).length = yl6 at *
            have HE6 := Lib.hid hyl6; clear hyl6
            go_wp2_with fail
            exact ⟨⟨k + 1, actW m x p, _, rfl, by omega, by omega, by go_num, HNW, Lib.hid (by rw [HE6.out]; exact HL6.out), HY6.out, HV, HX6.out, HB6.out⟩, by simp [intOf]; omega⟩
      · obtain rfl : k = 61 := by omega
        have hv := HRQ.out
        rw [Nat.sub_self, HZ.out] at hv
        have HV := Lib.hid hv
        clear hv
        go_wp2_with fail
        go_ret
        exact ⟨by rw [← HV.out]; rfl, HB.out⟩
set_option maxHeartbeats 2000000 in
set_option maxRecDepth 100000 in
theorem ords_any (B B' : Nat) (v v' : Value) (m : List (List Int)) (ws : List Int) (w : World) (h : MatB B w v m) (h' : RowB B' w v' ws) (hB : B ≤ w.heap.size) (hB' : B' ≤ w.heap.size) (hf : RowsFit m) (hw : ws.length ≤ 1048576) :
    Calls Try.prog 37 #[v, v'] w fun e w' => e = .returned (.int .i64 (ordI m ws)) ∧ Below w.heap.size w w' := by
  by_cases hW : IsW m ws
  · by_cases hgo : (decide (7 < (nrmL m ws).length) && !finB m) = true
    · have e : ordI m ws = 0 := by unfold ordI; rw [if_pos (wordB_yes hW), if_pos hgo]
      rw [e]
      have HN := Lib.hid (nrms_any B B' v v' m ws w h h' hB hB' hf hw)
      rw [wordB_yes hW] at HN
      have HFN := Lib.hid (fun (wx : World) (hb : Below w.heap.size w wx) => fins_any B v m wx (h.below hb hB) (Nat.le_trans hB hb.size) hf)
      rw [Bool.and_eq_true] at hgo
      obtain ⟨hd7, hfn⟩ := hgo
      have hfin : finB m = false := by simpa using hfn
      rw [hfin] at HFN
      obtain ⟨a, cap, rfl⟩ := h.slice
      obtain ⟨a', cap', rfl⟩ := h'.slice
      clear h h' hf hW hfn hfin e
      generalize nrmL m ws = x at *
      generalize hxn : x.length = xn at *
      have HXN := Lib.hid hxn; clear hxn
      have hq7 : (7 : Int) < (xn : Int) := by have := of_decide_eq_true hd7; omega
      have hr7 : decide ((7 : Int) < (xn : Int)) = true := decide_eq_true hq7
      go_enter Try.func37, Try.ntmps37
      go_wp2_with fail
      refine HN.out.mono ?_
      rintro e w1 ⟨xv, rfl, ⟨hx, _⟩, hb1⟩
      obtain ⟨xa, xcap, rfl⟩ := hx.slice
      have HB1 := Lib.hid hb1
      rw [HXN.out]
      have HFC := Lib.hid (HFN.out w1 hb1)
      clear hx hb1 HN HFN
      go_wp2_with fail
      refine HFC.out.mono ?_
      rintro e w2 ⟨rfl, hb2⟩
      have HB2 := Lib.hid (HB1.out.trans (hb2.mono HB1.out.size))
      clear hb2 HFC
      go_wp2_with fail
      go_ret
      exact ⟨rfl, HB2.out⟩
    · have hgo' : (decide (7 < (nrmL m ws).length) && !finB m) = false := by simpa using hgo
      have e : ordI m ws = ordS m (nrmL m ws) 60 1 (imgW m ws) := by unfold ordI; rw [if_pos (wordB_yes hW), if_neg hgo]
      rw [e]
      exact ords_yes B B' v v' m ws w h h' hB hB' hf hw hW (finB m) rfl hgo'
  · have e : ordI m ws = 0 := by unfold ordI; rw [wordB_no hW]; rfl
    rw [e]
    have HN := Lib.hid (nrms_any B B' v v' m ws w h h' hB hB' hf hw)
    rw [wordB_no hW, nrmL_no hW] at HN
    obtain ⟨a, cap, rfl⟩ := h.slice
    obtain ⟨a', cap', rfl⟩ := h'.slice
    clear h h' hf hW e
    go_enter Try.func37, Try.ntmps37
    go_wp2_with fail
    refine HN.out.mono ?_
    rintro e w1 ⟨xv, rfl, ⟨hx, _⟩, hb1⟩
    obtain ⟨xa, xcap, rfl⟩ := hx.slice
    have HB1 := Lib.hid hb1
    clear hx hb1 HN
    go_wp2_with fail
    go_ret
    exact ⟨rfl, HB1.out⟩
end Go.Proofs.Ytnlbmnielemgiaa
namespace Go.Proofs.Ytnlbmnielemgiaa
open Go.RowKit

/-! ### Signs of a choice -/
def sgnC (j : Nat) : List Nat → Int
  | [] => 1
  | c :: l => if j < c then -sgnC j l else sgnC j l
/-- The sign behind the first i columns of the choice. -/
def sgnT (j : Nat) (ch : List Nat) (i : Nat) : Int := sgnC j (ch.take i)
theorem sgnC_snoc (j c : Nat) (l : List Nat) : sgnC j (l ++ [c]) = if j < c then -sgnC j l else sgnC j l := by
  induction l with
  | nil => rfl
  | cons x l ih =>
    show (if j < x then -sgnC j (l ++ [c]) else sgnC j (l ++ [c])) = _
    rw [ih]
    show _ = if j < c then -(if j < x then -sgnC j l else sgnC j l) else (if j < x then -sgnC j l else sgnC j l)
    split <;> split <;> simp
theorem sgnC_one (j : Nat) (l : List Nat) : sgnC j l = 1 ∨ sgnC j l = -1 := by
  induction l with
  | nil => exact Or.inl rfl
  | cons x l ih =>
    show (if j < x then -sgnC j l else sgnC j l) = 1 ∨ (if j < x then -sgnC j l else sgnC j l) = -1
    split
    · rcases ih with h | h <;> rw [h] <;> simp
    · exact ih
/-! ### The sum over the columns that are left -/
def expF (m : List (List Int)) (n : Nat) : Nat → List Nat → Int
  | 0, _ => 1
  | k + 1, ch => ((List.range n).map fun j => if ch.contains j then 0 else sgnC j ch * entry m ch.length j * expF m n k (ch ++ [j])).sum
def expT (m : List (List Int)) (n k : Nat) (ch : List Nat) (j : Nat) : Int := if ch.contains j then 0 else sgnC j ch * entry m ch.length j * expF m n k (ch ++ [j])
def expS (m : List (List Int)) (n k : Nat) (ch : List Nat) (j : Nat) : Int := ((List.range j).map (expT m n k ch)).sum
theorem expS_step (m : List (List Int)) (n k : Nat) (ch : List Nat) (j : Nat) : expS m n k ch (j + 1) = expS m n k ch j + expT m n k ch j := by
  unfold expS
  rw [List.range_succ, List.map_append, List.sum_append]
  simp
theorem expS_end (m : List (List Int)) (n k : Nat) (ch : List Nat) : expS m n k ch n = expF m n (k + 1) ch := rfl
/-- 4, 4 * 3 * 4, .. : what a sum comes to at most. -/
def eB : Nat → Int
  | 0 => 1
  | n + 1 => 4 * (3 * eB n)
theorem eB_nonneg (n : Nat) : 0 ≤ eB n := by
  induction n with
  | zero => decide
  | succ n ih => exact Int.mul_nonneg (by omega) (by omega)
theorem expT_bd {m : List (List Int)} {n k : Nat} {ch : List Nat} {j : Nat} (hb : Bd m) (h : -(eB k) ≤ expF m n k (ch ++ [j]) ∧ expF m n k (ch ++ [j]) ≤ eB k) : -(3 * eB k) ≤ expT m n k ch j ∧ expT m n k ch j ≤ 3 * eB k := by
  have h0 := eB_nonneg k
  unfold expT
  split
  · omega
  · have hx : -3 ≤ sgnC j ch * entry m ch.length j ∧ sgnC j ch * entry m ch.length j ≤ 3 := by
      have := hb ch.length j
      rcases sgnC_one j ch with h1 | h1 <;> rw [h1] <;> omega
    exact mul_le3 hx h h0
theorem expS_bd {m : List (List Int)} {n k : Nat} {ch : List Nat} (hb : Bd m) (h : ∀ j, -(eB k) ≤ expF m n k (ch ++ [j]) ∧ expF m n k (ch ++ [j]) ≤ eB k) (j : Nat) :
    -((j : Int) * (3 * eB k)) ≤ expS m n k ch j ∧ expS m n k ch j ≤ (j : Int) * (3 * eB k) := by
  induction j with
  | zero => simp [expS]
  | succ j ih =>
    rw [expS_step]
    have h1 := expT_bd hb (h j)
    have e : ((j + 1 : Nat) : Int) * (3 * eB k) = (j : Int) * (3 * eB k) + 3 * eB k := by rw [Int.natCast_succ, Int.add_mul, Int.one_mul]
    rw [e]
    omega
theorem expF_bd {m : List (List Int)} {n : Nat} (hn : n ≤ 4) (hb : Bd m) (k : Nat) : ∀ ch, -(eB k) ≤ expF m n k ch ∧ expF m n k ch ≤ eB k := by
  induction k with
  | zero => intro ch; show -(1 : Int) ≤ 1 ∧ (1 : Int) ≤ 1; decide
  | succ k ih =>
    intro ch
    rw [← expS_end]
    have h1 := expS_bd (n := n) (ch := ch) hb (fun j => ih (ch ++ [j])) n
    have h0 := eB_nonneg k
    have h2 : (n : Int) * (3 * eB k) ≤ 4 * (3 * eB k) := Int.mul_le_mul_of_nonneg_right (by omega) (by omega)
    show -(4 * (3 * eB k)) ≤ _ ∧ _ ≤ 4 * (3 * eB k)
    omega
theorem eB_small (n : Nat) (h : n ≤ 4) : eB n ≤ 20736 := by
  rcases (show n = 0 ∨ n = 1 ∨ n = 2 ∨ n = 3 ∨ n = 4 by omega) with rfl | rfl | rfl | rfl | rfl <;> decide
/-! ### It is the determinant -/
theorem exp_det1 (m : List (List Int)) : expF m 1 1 [] = detF 1 m := by
  simp [expF, detF, sgnC, sgn, entry, List.range_succ, List.getD]
theorem exp_det2 (m : List (List Int)) : expF m 2 2 [] = detF 2 m := by
  have e : ∀ i j, ((m[i]?.getD [])[j]?.getD 0) = entry m i j := fun i j => by simp [entry, List.getD]
  simp [expF, detF, sgnC, sgn, wdM, wdR, keepC, List.range_succ, List.contains, List.elem]
  simp [entry, List.getD]
  simp only [e]
  grind
theorem exp_det3 (m : List (List Int)) : expF m 3 3 [] = detF 3 m := by
  have e : ∀ i j, ((m[i]?.getD [])[j]?.getD 0) = entry m i j := fun i j => by simp [entry, List.getD]
  simp [expF, detF, sgnC, sgn, wdM, wdR, keepC, List.range_succ, List.contains, List.elem]
  simp [entry, List.getD]
  simp only [e]
  grind
set_option maxHeartbeats 2000000 in
theorem exp_det4 (m : List (List Int)) : expF m 4 4 [] = detF 4 m := by
  have e : ∀ i j, ((m[i]?.getD [])[j]?.getD 0) = entry m i j := fun i j => by simp [entry, List.getD]
  simp [expF, detF, sgnC, sgn, wdM, wdR, keepC, List.range_succ, List.contains, List.elem]
  simp [entry, List.getD]
  simp only [e]
  grind
theorem exp_det (m : List (List Int)) (n : Nat) (h : n ≤ 4) : expF m n n [] = detF n m := by
  rcases (show n = 0 ∨ n = 1 ∨ n = 2 ∨ n = 3 ∨ n = 4 by omega) with rfl | rfl | rfl | rfl | rfl
  · rfl
  · exact exp_det1 m
  · exact exp_det2 m
  · exact exp_det3 m
  · exact exp_det4 m
end Go.Proofs.Ytnlbmnielemgiaa
