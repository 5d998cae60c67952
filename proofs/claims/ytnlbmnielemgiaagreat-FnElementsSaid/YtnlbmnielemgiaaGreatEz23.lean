/-
  Elements: what the model's functions of chapter 9 return.
-/
import Derived.Test.YtnlbmnielemgiaaGreatEz22
namespace Go.Proofs.YtnlbmnielemgiaaGreat
open Go.RowKit

theorem RowB.upE {w w' : World} {v : Value} {l : List Int} (h : RowB w.heap.size w v l) (hb : Below w.heap.size w w') : RowB w'.heap.size w' v l := (h.below hb (Nat.le_refl _)).mono hb.size
theorem MatB.upE {w w' : World} {v : Value} {m : List (List Int)} (h : MatB w.heap.size w v m) (hb : Below w.heap.size w w') : MatB w'.heap.size w' v m := (h.below hb (Nat.le_refl _)).mono hb.size
theorem isws_e (v v' : Value) (m : List (List Int)) (l : List Int) (w : World) (h : MatB w.heap.size w v m) (h' : RowB w.heap.size w v' l) (hf : RowsFit m) (hl : l.length ≤ 1048576) :
    Calls Tryz.prog 10 #[v, v'] w fun e w' => e = .returned (.bool (wordB m l)) ∧ Below w.heap.size w w' :=
  (isws_any _ _ v v' m l w h h' hf (by unfold maxLen; omega)).mono fun e w' ⟨h1, q, h2⟩ => ⟨h1, by rw [h2]; exact below_drewN q⟩
theorem eqws_e (v v' : Value) (l l' : List Int) (w : World) (h : RowB w.heap.size w v l) (h' : RowB w.heap.size w v' l') (hl : l.length ≤ 1048576) (hl' : l'.length ≤ 1048576) :
    Calls Tryz.prog 56 #[v, v'] w fun e w' => e = .returned (.bool (eqwB l l')) ∧ Below w.heap.size w w' :=
  (eqws_any _ v v' l l' w h h' (by unfold maxLen; omega) (by unfold maxLen; omega)).mono fun e w' ⟨h1, q, h2⟩ => ⟨h1, by rw [h2]; exact below_drewN q⟩
set_option maxHeartbeats 4000000 in
set_option maxRecDepth 100000 in
theorem fit9s_e (v v' : Value) (m : List (List Int)) (ws : List Int) (w : World) (h : MatB w.heap.size w v m) (h' : RowB w.heap.size w v' ws) (hf : RowsFit m) (hd : Wd m ws) :
    Calls Tryz.prog 34 #[v, v'] w (MakesS2 w (if (fitL m ws).length ≤ 15 then fitL m ws else []) (.bool (decide ((fitL m ws).length ≤ 15)))) := by
  have HN := Lib.hid (nrm8_any _ _ v v' m ws w h h' (Nat.le_refl _) (Nat.le_refl _) hf hd.car hd.lets (by have := hd.short; omega))
  rw [show frmI m 31 (imgW m ws) = fitL m ws from rfl] at HN
  have hL := fitL_len m ws
  clear h h' hf hd
  generalize fitL m ws = R at *
  by_cases h15 : R.length ≤ 15
  · have hd : decide ((15 : Int) < (R.length : Int)) = false := decide_eq_false (by omega)
    have hp : ¬ ((15 : Int) < (R.length : Int)) := by omega
    rw [if_pos h15, decide_eq_true h15]
    go_enter Tryz.func34, Tryz.ntmps34
    go_wp2_with fail
    refine HN.out.mono ?_
    rintro e w1 ⟨x, rfl, hx, hb⟩
    obtain ⟨xa, xcap, rfl⟩ := hx.1.slice
    have HX := Lib.hid hx; have HB := Lib.hid hb
    clear hx hb HN
    go_wp2_with fail
    go_ret2
    exact ⟨_, rfl, HX.out, HB.out⟩
  · have hd : decide ((15 : Int) < (R.length : Int)) = true := decide_eq_true (by omega)
    have hp : (15 : Int) < (R.length : Int) := by omega
    rw [if_neg h15, decide_eq_false h15]
    go_enter Tryz.func34, Tryz.ntmps34
    go_wp2_with fail
    refine HN.out.mono ?_
    rintro e w1 ⟨x, rfl, hx, hb⟩
    obtain ⟨xa, xcap, rfl⟩ := hx.1.slice
    have HB := Lib.hid hb
    clear hx hb HN
    go_wp2_with fail
    go_ret2
    exact ⟨_, rfl, ⟨(row_empty w1).mono HB.out.size (Nat.le_refl _), Nat.le_refl _⟩, HB.out.alloc HB.out.size _⟩
set_option maxHeartbeats 4000000 in
set_option maxRecDepth 100000 in
theorem muls_e (v va vb : Value) (m : List (List Int)) (a b : List Int) (w : World) (h : MatB w.heap.size w v m) (ha : RowB w.heap.size w va a) (hb : RowB w.heap.size w vb b) (hf : RowsFit m) (hla : a.length ≤ 1048576) (hlb : b.length ≤ 1048576) :
    Calls Tryz.prog 7 #[v, va, vb] w (MakesS2 w (mulL m a b) (.bool (mulB m a b))) := by
  have HX := Lib.hid h; have HA := Lib.hid ha; have HV := Lib.hid hb
  clear h ha hb
  have HI1 := Lib.hid (fun (wx : World) (hx : MatB wx.heap.size wx v m) (hy : RowB wx.heap.size wx va a) => isws_e v va m a wx hx hy hf hla)
  have HI2 := Lib.hid (fun (wx : World) (hx : MatB wx.heap.size wx v m) (hy : RowB wx.heap.size wx vb b) => isws_e v vb m b wx hx hy hf hlb)
  have HCT := Lib.hid (fun (wx : World) (hy : RowB wx.heap.size wx va a) (hz : RowB wx.heap.size wx vb b) => cats_any _ _ va vb a b wx hy hz (Nat.le_refl _) (Nat.le_refl _) hla hlb)
  by_cases h1 : IsW m a
  case neg =>
    rw [show mulB m a b = false by unfold mulB; rw [wordB_no h1]; rfl, show mulL m a b = [] from mul_no (by unfold mulB; rw [wordB_no h1]; rfl)]
    rw [wordB_no h1] at HI1
    clear h1 HI2 HCT hf
    have HB := Lib.hid (Below.refl w.heap.size w)
    go_enter Tryz.func7, Tryz.ntmps7
    go_wp2_with fail
    refine (HI1.out _ HX.out HA.out).mono ?_
    rintro e w1 ⟨rfl, hb⟩
    replace HX := Lib.hid (HX.out.upE hb)
    replace HA := Lib.hid (HA.out.upE hb)
    replace HV := Lib.hid (HV.out.upE hb)
    replace HB := Lib.hid (HB.out.trans (hb.mono HB.out.size))
    clear hb
    go_wp2_with fail
    go_ret2
    exact ⟨_, rfl, ⟨(row_empty w1).mono HB.out.size (Nat.le_refl _), Nat.le_refl _⟩, HB.out.alloc HB.out.size _⟩
  case pos =>
    by_cases h2 : IsW m b
    case neg =>
      rw [show mulB m a b = false by unfold mulB; rw [wordB_yes h1, wordB_no h2]; rfl, show mulL m a b = [] from mul_no (by unfold mulB; rw [wordB_yes h1, wordB_no h2]; rfl)]
      rw [wordB_yes h1] at HI1; rw [wordB_no h2] at HI2
      clear h1 h2 HCT hf
      have HB := Lib.hid (Below.refl w.heap.size w)
      go_enter Tryz.func7, Tryz.ntmps7
      go_wp2_with fail
      refine (HI1.out _ HX.out HA.out).mono ?_
      rintro e w1 ⟨rfl, hb⟩
      replace HX := Lib.hid (HX.out.upE hb)
      replace HA := Lib.hid (HA.out.upE hb)
      replace HV := Lib.hid (HV.out.upE hb)
      replace HB := Lib.hid (HB.out.trans (hb.mono HB.out.size))
      clear hb
      go_wp2_with fail
      refine (HI2.out _ HX.out HV.out).mono ?_
      rintro e w2 ⟨rfl, hb⟩
      replace HX := Lib.hid (HX.out.upE hb)
      replace HA := Lib.hid (HA.out.upE hb)
      replace HV := Lib.hid (HV.out.upE hb)
      replace HB := Lib.hid (HB.out.trans (hb.mono HB.out.size))
      clear hb
      go_wp2_with fail
      go_ret2
      exact ⟨_, rfl, ⟨(row_empty w2).mono HB.out.size (Nat.le_refl _), Nat.le_refl _⟩, HB.out.alloc HB.out.size _⟩
    case pos =>
      have hv : mulB m a b = decide ((fitL m (a ++ b)).length ≤ 15) := by unfold mulB; rw [wordB_yes h1, wordB_yes h2, Bool.true_and, Bool.true_and]
      have hv2 : mulL m a b = if (fitL m (a ++ b)).length ≤ 15 then fitL m (a ++ b) else [] := by unfold mulL; rw [hv]; simp only [decide_eq_true_eq]
      have HF := Lib.hid (fun (z : Value) (wx : World) (hx : MatB wx.heap.size wx v m) (hz : RowB wx.heap.size wx z (a ++ b)) => fit9s_e v z m (a ++ b) wx hx hz hf (wd_cat h1 h2))
      rw [hv, hv2]
      rw [wordB_yes h1] at HI1; rw [wordB_yes h2] at HI2
      clear h1 h2 hv hv2 hf
      generalize (if (fitL m (a ++ b)).length ≤ 15 then fitL m (a ++ b) else []) = R at *
      generalize decide ((fitL m (a ++ b)).length ≤ 15) = D at *
      have HB := Lib.hid (Below.refl w.heap.size w)
      go_enter Tryz.func7, Tryz.ntmps7
      go_wp2_with fail
      refine (HI1.out _ HX.out HA.out).mono ?_
      rintro e w1 ⟨rfl, hb⟩
      replace HX := Lib.hid (HX.out.upE hb)
      replace HA := Lib.hid (HA.out.upE hb)
      replace HV := Lib.hid (HV.out.upE hb)
      replace HB := Lib.hid (HB.out.trans (hb.mono HB.out.size))
      clear hb
      go_wp2_with fail
      refine (HI2.out _ HX.out HV.out).mono ?_
      rintro e w2 ⟨rfl, hb⟩
      replace HX := Lib.hid (HX.out.upE hb)
      replace HA := Lib.hid (HA.out.upE hb)
      replace HV := Lib.hid (HV.out.upE hb)
      replace HB := Lib.hid (HB.out.trans (hb.mono HB.out.size))
      clear hb
      go_wp2_with fail
      refine (HCT.out _ HA.out HV.out).mono ?_
      rintro e w3 ⟨z, rfl, hz, hb⟩
      replace HX := Lib.hid (HX.out.upE hb)
      replace HA := Lib.hid (HA.out.upE hb)
      replace HV := Lib.hid (HV.out.upE hb)
      have HZ := Lib.hid (hz.1.rowB)
      replace HB := Lib.hid (HB.out.trans (hb.mono HB.out.size))
      clear hb
      go_wp2_with fail
      clear hz
      refine (HF.out z _ HX.out HZ.out).mono ?_
      rintro e w4 ⟨y, rfl, hy, hb⟩
      replace HX := Lib.hid (HX.out.upE hb)
      replace HA := Lib.hid (HA.out.upE hb)
      replace HV := Lib.hid (HV.out.upE hb)
      replace HZ := Lib.hid (HZ.out.upE hb)
      have HY := Lib.hid ((hy.1).mono HB.out.size (Nat.le_refl _))
      replace HB := Lib.hid (HB.out.trans (hb.mono HB.out.size))
      clear hb
      go_wp2_with fail
      go_ret2
      exact ⟨_, rfl, ⟨HY.out, Nat.le_refl _⟩, HB.out⟩
set_option maxHeartbeats 4000000 in
set_option maxRecDepth 100000 in
theorem elms_e (v va : Value) (m : List (List Int)) (a : List Int) (w : World) (h : MatB w.heap.size w v m) (ha : RowB w.heap.size w va a) (hf : RowsFit m) (hla : a.length ≤ 1048576) :
    Calls Tryz.prog 28 #[v, va] w fun e w' => e = .returned (.bool (elemB m a)) ∧ Below w.heap.size w w' := by
  have HX := Lib.hid h; have HA := Lib.hid ha
  clear h ha
  have HN := Lib.hid (fun (wx : World) (hx : MatB wx.heap.size wx v m) (hy : RowB wx.heap.size wx va a) => nrms_any _ _ v va m a wx hx hy (Nat.le_refl _) (Nat.le_refl _) hf hla)
  have hnl := nrmL_len m a
  have HE := Lib.hid (fun (z : Value) (wx : World) (hz : RowB wx.heap.size wx z (nrmL m a)) (hy : RowB wx.heap.size wx va a) => eqws_e z va (nrmL m a) a wx hz hy (by omega) hla)
  cases hW : wordB m a
  case false =>
    rw [show elemB m a = false by unfold elemB; rw [hW]; rfl]
    rw [hW] at HN
    clear hW HE hf hnl
    generalize nrmL m a = R at *
    have HB := Lib.hid (Below.refl w.heap.size w)
    go_enter Tryz.func28, Tryz.ntmps28
    go_wp2_with fail
    refine (HN.out _ HX.out HA.out).mono ?_
    rintro e w1 ⟨z, rfl, hz, hb⟩
    replace HX := Lib.hid (HX.out.upE hb)
    replace HA := Lib.hid (HA.out.upE hb)
    replace HB := Lib.hid (HB.out.trans (hb.mono HB.out.size))
    clear hb
    go_wp2_with fail
    go_ret
    exact ⟨rfl, HB.out⟩
  case true =>
    rw [show elemB m a = eqwB (nrmL m a) a by unfold elemB; rw [hW, Bool.true_and]]
    rw [hW] at HN
    clear hW hf hnl
    generalize eqwB (nrmL m a) a = D at *
    generalize nrmL m a = R at *
    have HB := Lib.hid (Below.refl w.heap.size w)
    go_enter Tryz.func28, Tryz.ntmps28
    go_wp2_with fail
    refine (HN.out _ HX.out HA.out).mono ?_
    rintro e w1 ⟨z, rfl, hz, hb⟩
    replace HX := Lib.hid (HX.out.upE hb)
    replace HA := Lib.hid (HA.out.upE hb)
    have HZ := Lib.hid (hz.1.rowB)
    replace HB := Lib.hid (HB.out.trans (hb.mono HB.out.size))
    clear hb
    go_wp2_with fail
    refine (HE.out z _ HZ.out HA.out).mono ?_
    rintro e w2 ⟨rfl, hb⟩
    replace HX := Lib.hid (HX.out.upE hb)
    replace HA := Lib.hid (HA.out.upE hb)
    replace HZ := Lib.hid (HZ.out.upE hb)
    replace HB := Lib.hid (HB.out.trans (hb.mono HB.out.size))
    clear hb
    go_wp2_with fail
    go_ret
    exact ⟨rfl, HB.out⟩
set_option maxHeartbeats 4000000 in
set_option maxRecDepth 100000 in
theorem invs_e (v va : Value) (m : List (List Int)) (a : List Int) (w : World) (h : MatB w.heap.size w v m) (ha : RowB w.heap.size w va a) (hf : RowsFit m) (hla : a.length ≤ 1048576) :
    Calls Tryz.prog 23 #[v, va] w (MakesS2 w (invL m a) (.bool (invB m a))) := by
  have HX := Lib.hid h; have HA := Lib.hid ha
  clear h ha
  have HR := Lib.hid (fun (wx : World) (hy : RowB wx.heap.size wx va a) => revs_any _ va a wx hy (Nat.le_refl _) hla)
  have HN := Lib.hid (fun (z : Value) (wx : World) (hx : MatB wx.heap.size wx v m) (hz : RowB wx.heap.size wx z a.reverse) => show Calls Tryz.prog 48 #[v, z] wx (MakesS2 wx (invL m a) (.bool (invB m a))) from nrms_any _ _ v z m a.reverse wx hx hz (Nat.le_refl _) (Nat.le_refl _) hf (by rw [List.length_reverse]; exact hla))
  generalize invL m a = R at *
  generalize invB m a = D at *
  generalize a.reverse = ar at *
  clear hf
  have HB := Lib.hid (Below.refl w.heap.size w)
  go_enter Tryz.func23, Tryz.ntmps23
  go_wp2_with fail
  refine (HR.out _ HA.out).mono ?_
  rintro e w1 ⟨z, rfl, hz, hb⟩
  replace HX := Lib.hid (HX.out.upE hb)
  replace HA := Lib.hid (HA.out.upE hb)
  have HZ := Lib.hid (hz.1.rowB)
  replace HB := Lib.hid (HB.out.trans (hb.mono HB.out.size))
  clear hb
  go_wp2_with fail
  clear hz
  refine (HN.out z _ HX.out HZ.out).mono ?_
  rintro e w2 ⟨y, rfl, hy, hb⟩
  replace HX := Lib.hid (HX.out.upE hb)
  replace HA := Lib.hid (HA.out.upE hb)
  replace HZ := Lib.hid (HZ.out.upE hb)
  have HY := Lib.hid ((hy.1).mono HB.out.size (Nat.le_refl _))
  replace HB := Lib.hid (HB.out.trans (hb.mono HB.out.size))
  clear hb
  go_wp2_with fail
  go_ret2
  exact ⟨_, rfl, ⟨HY.out, Nat.le_refl _⟩, HB.out⟩
set_option maxHeartbeats 4000000 in
set_option maxRecDepth 100000 in
theorem cnjs_e (v va vb : Value) (m : List (List Int)) (a b : List Int) (w : World) (h : MatB w.heap.size w v m) (ha : RowB w.heap.size w va a) (hb : RowB w.heap.size w vb b) (hf : RowsFit m) (hla : a.length ≤ 1048576) (hlb : b.length ≤ 1048576) :
    Calls Tryz.prog 21 #[v, va, vb] w (MakesS2 w (cnjL m a b) (.bool (cnjB m a b))) := by
  have HX := Lib.hid h; have HA := Lib.hid ha; have HV := Lib.hid hb
  clear h ha hb
  have HR := Lib.hid (fun (wx : World) (hy : RowB wx.heap.size wx vb b) => revs_any _ vb b wx hy (Nat.le_refl _) hlb)
  have HM := Lib.hid (fun (z : Value) (wx : World) (hx : MatB wx.heap.size wx v m) (hz : RowB wx.heap.size wx z b.reverse) (hy : RowB wx.heap.size wx va a) => muls_e v z va m b.reverse a wx hx hz hy hf (by rw [List.length_reverse]; exact hlb) hla)
  have hl1 : (mulL m b.reverse a).length ≤ 31 := by unfold mulL; split; exact fitL_len m _; exact Nat.zero_le _
  have HM2 := Lib.hid (fun (z : Value) (wx : World) (hx : MatB wx.heap.size wx v m) (hz : RowB wx.heap.size wx z (mulL m b.reverse a)) (hy : RowB wx.heap.size wx vb b) => muls_e v z vb m (mulL m b.reverse a) b wx hx hz hy hf (by omega) hlb)
  cases hW : mulB m b.reverse a
  case false =>
    have hv : cnjB m a b = false := by unfold cnjB; rw [hW]; rfl
    rw [hv, show cnjL m a b = [] by unfold cnjL; rw [hv]; rfl]
    rw [hW] at HM
    clear hv hW HM2 hf hl1
    generalize mulL m b.reverse a = R at *
    generalize b.reverse = br at *
    have HB := Lib.hid (Below.refl w.heap.size w)
    go_enter Tryz.func21, Tryz.ntmps21
    go_wp2_with fail
    refine (HR.out _ HV.out).mono ?_
    rintro e w1 ⟨z, rfl, hz, hb⟩
    replace HX := Lib.hid (HX.out.upE hb)
    replace HA := Lib.hid (HA.out.upE hb)
    replace HV := Lib.hid (HV.out.upE hb)
    have HZ := Lib.hid (hz.1.rowB)
    replace HB := Lib.hid (HB.out.trans (hb.mono HB.out.size))
    clear hb
    go_wp2_with fail
    clear hz
    refine (HM.out z _ HX.out HZ.out HA.out).mono ?_
    rintro e w2 ⟨y, rfl, hy, hb⟩
    replace HX := Lib.hid (HX.out.upE hb)
    replace HA := Lib.hid (HA.out.upE hb)
    replace HV := Lib.hid (HV.out.upE hb)
    replace HZ := Lib.hid (HZ.out.upE hb)
    replace HB := Lib.hid (HB.out.trans (hb.mono HB.out.size))
    clear hb
    go_wp2_with fail
    go_ret2
    exact ⟨_, rfl, ⟨(row_empty w2).mono HB.out.size (Nat.le_refl _), Nat.le_refl _⟩, HB.out.alloc HB.out.size _⟩
  case true =>
    have hv : cnjB m a b = mulB m (mulL m b.reverse a) b := by unfold cnjB; rw [hW, Bool.true_and]
    have hv2 : cnjL m a b = mulL m (mulL m b.reverse a) b := by
      unfold cnjL
      rw [hv]
      split
      · rfl
      · rename_i h9; exact (mul_no (by simpa using h9)).symm
    rw [hv, hv2]
    rw [hW] at HM
    clear hv hv2 hW hf hl1
    generalize mulL m (mulL m b.reverse a) b = R2 at *
    generalize mulB m (mulL m b.reverse a) b = D2 at *
    generalize mulL m b.reverse a = R at *
    generalize b.reverse = br at *
    have HB := Lib.hid (Below.refl w.heap.size w)
    go_enter Tryz.func21, Tryz.ntmps21
    go_wp2_with fail
    refine (HR.out _ HV.out).mono ?_
    rintro e w1 ⟨z, rfl, hz, hb⟩
    replace HX := Lib.hid (HX.out.upE hb)
    replace HA := Lib.hid (HA.out.upE hb)
    replace HV := Lib.hid (HV.out.upE hb)
    have HZ := Lib.hid (hz.1.rowB)
    replace HB := Lib.hid (HB.out.trans (hb.mono HB.out.size))
    clear hb
    go_wp2_with fail
    clear hz
    refine (HM.out z _ HX.out HZ.out HA.out).mono ?_
    rintro e w2 ⟨y, rfl, hy, hb⟩
    replace HX := Lib.hid (HX.out.upE hb)
    replace HA := Lib.hid (HA.out.upE hb)
    replace HV := Lib.hid (HV.out.upE hb)
    replace HZ := Lib.hid (HZ.out.upE hb)
    have HY := Lib.hid (hy.1.rowB)
    replace HB := Lib.hid (HB.out.trans (hb.mono HB.out.size))
    clear hb
    go_wp2_with fail
    clear hy
    refine (HM2.out y _ HX.out HY.out HV.out).mono ?_
    rintro e w3 ⟨u, rfl, hu, hb⟩
    replace HX := Lib.hid (HX.out.upE hb)
    replace HA := Lib.hid (HA.out.upE hb)
    replace HV := Lib.hid (HV.out.upE hb)
    replace HZ := Lib.hid (HZ.out.upE hb)
    replace HY := Lib.hid (HY.out.upE hb)
    have HU := Lib.hid ((hu.1).mono HB.out.size (Nat.le_refl _))
    replace HB := Lib.hid (HB.out.trans (hb.mono HB.out.size))
    clear hb
    go_wp2_with fail
    go_ret2
    exact ⟨_, rfl, ⟨HU.out, Nat.le_refl _⟩, HB.out⟩
set_option maxHeartbeats 4000000 in
set_option maxRecDepth 100000 in
theorem coms_e (v va vb : Value) (m : List (List Int)) (a b : List Int) (w : World) (h : MatB w.heap.size w v m) (ha : RowB w.heap.size w va a) (hb : RowB w.heap.size w vb b) (hf : RowsFit m) (hla : a.length ≤ 1048576) (hlb : b.length ≤ 1048576) :
    Calls Tryz.prog 29 #[v, va, vb] w fun e w' => e = .returned (.bool (comB m a b)) ∧ Below w.heap.size w w' := by
  have HX := Lib.hid h; have HA := Lib.hid ha; have HV := Lib.hid hb
  clear h ha hb
  have HI1 := Lib.hid (fun (wx : World) (hx : MatB wx.heap.size wx v m) (hy : RowB wx.heap.size wx va a) => isws_e v va m a wx hx hy hf hla)
  have HI2 := Lib.hid (fun (wx : World) (hx : MatB wx.heap.size wx v m) (hy : RowB wx.heap.size wx vb b) => isws_e v vb m b wx hx hy hf hlb)
  by_cases h1 : IsW m a
  case neg =>
    rw [show comB m a b = false by unfold comB; rw [wordB_no h1]; rfl]
    rw [wordB_no h1] at HI1
    clear h1 HI2 hf
    have HB := Lib.hid (Below.refl w.heap.size w)
    go_enter Tryz.func29, Tryz.ntmps29
    go_wp2_with fail
    refine (HI1.out _ HX.out HA.out).mono ?_
    rintro e w1 ⟨rfl, hb⟩
    replace HX := Lib.hid (HX.out.upE hb)
    replace HA := Lib.hid (HA.out.upE hb)
    replace HV := Lib.hid (HV.out.upE hb)
    replace HB := Lib.hid (HB.out.trans (hb.mono HB.out.size))
    clear hb
    go_wp2_with fail
    go_ret
    exact ⟨rfl, HB.out⟩
  case pos =>
    by_cases h2 : IsW m b
    case neg =>
      rw [show comB m a b = false by unfold comB; rw [wordB_yes h1, wordB_no h2]; rfl]
      rw [wordB_yes h1] at HI1; rw [wordB_no h2] at HI2
      clear h1 h2 hf
      have HB := Lib.hid (Below.refl w.heap.size w)
      go_enter Tryz.func29, Tryz.ntmps29
      go_wp2_with fail
      refine (HI1.out _ HX.out HA.out).mono ?_
      rintro e w1 ⟨rfl, hb⟩
      replace HX := Lib.hid (HX.out.upE hb)
      replace HA := Lib.hid (HA.out.upE hb)
      replace HV := Lib.hid (HV.out.upE hb)
      replace HB := Lib.hid (HB.out.trans (hb.mono HB.out.size))
      clear hb
      go_wp2_with fail
      refine (HI2.out _ HX.out HV.out).mono ?_
      rintro e w2 ⟨rfl, hb⟩
      replace HX := Lib.hid (HX.out.upE hb)
      replace HA := Lib.hid (HA.out.upE hb)
      replace HV := Lib.hid (HV.out.upE hb)
      replace HB := Lib.hid (HB.out.trans (hb.mono HB.out.size))
      clear hb
      go_wp2_with fail
      go_ret
      exact ⟨rfl, HB.out⟩
    case pos =>
      rw [show comB m a b = eqwB (imgW m (a ++ b)) (imgW m (b ++ a)) by unfold comB; rw [wordB_yes h1, wordB_yes h2, Bool.true_and, Bool.true_and]]
      rw [wordB_yes h1] at HI1; rw [wordB_yes h2] at HI2
      have HC1 := Lib.hid (fun (wx : World) (hy : RowB wx.heap.size wx va a) (hz : RowB wx.heap.size wx vb b) => cats_any _ _ va vb a b wx hy hz (Nat.le_refl _) (Nat.le_refl _) hla hlb)
      have HC2 := Lib.hid (fun (wx : World) (hy : RowB wx.heap.size wx va a) (hz : RowB wx.heap.size wx vb b) => cats_any _ _ vb va b a wx hz hy (Nat.le_refl _) (Nat.le_refl _) hlb hla)
      have HM1 := Lib.hid (fun (z : Value) (wx : World) (hx : MatB wx.heap.size wx v m) (hz : RowB wx.heap.size wx z (a ++ b)) => img8_any _ _ v z m (a ++ b) wx hx hz (Nat.le_refl _) (Nat.le_refl _) hf (wd_cat h1 h2).car (wd_cat h1 h2).lets (by have := (wd_cat h1 h2).short; omega))
      have HM2 := Lib.hid (fun (z : Value) (wx : World) (hx : MatB wx.heap.size wx v m) (hz : RowB wx.heap.size wx z (b ++ a)) => img8_any _ _ v z m (b ++ a) wx hx hz (Nat.le_refl _) (Nat.le_refl _) hf (wd_cat h2 h1).car (wd_cat h2 h1).lets (by have := (wd_cat h2 h1).short; omega))
      have HEQ := Lib.hid (fun (x y : Value) (wx : World) (hx : RowB wx.heap.size wx x (imgW m (a ++ b))) (hy : RowB wx.heap.size wx y (imgW m (b ++ a))) => eqws_e x y (imgW m (a ++ b)) (imgW m (b ++ a)) wx hx hy (by rw [imgW_len]; have := h1.2.1.2.2.2; omega) (by rw [imgW_len]; have := h1.2.1.2.2.2; omega))
      clear h1 h2 hf
      generalize eqwB (imgW m (a ++ b)) (imgW m (b ++ a)) = D at *
      generalize imgW m (a ++ b) = i1 at *
      generalize imgW m (b ++ a) = i2 at *
      generalize a ++ b = ab at *
      generalize b ++ a = ba at *
      have HB := Lib.hid (Below.refl w.heap.size w)
      go_enter Tryz.func29, Tryz.ntmps29
      go_wp2_with fail
      refine (HI1.out _ HX.out HA.out).mono ?_
      rintro e w1 ⟨rfl, hb⟩
      replace HX := Lib.hid (HX.out.upE hb)
      replace HA := Lib.hid (HA.out.upE hb)
      replace HV := Lib.hid (HV.out.upE hb)
      replace HB := Lib.hid (HB.out.trans (hb.mono HB.out.size))
      clear hb
      go_wp2_with fail
      refine (HI2.out _ HX.out HV.out).mono ?_
      rintro e w2 ⟨rfl, hb⟩
      replace HX := Lib.hid (HX.out.upE hb)
      replace HA := Lib.hid (HA.out.upE hb)
      replace HV := Lib.hid (HV.out.upE hb)
      replace HB := Lib.hid (HB.out.trans (hb.mono HB.out.size))
      clear hb
      go_wp2_with fail
      refine (HC1.out _ HA.out HV.out).mono ?_
      rintro e w3 ⟨z1, rfl, hz, hb⟩
      replace HX := Lib.hid (HX.out.upE hb)
      replace HA := Lib.hid (HA.out.upE hb)
      replace HV := Lib.hid (HV.out.upE hb)
      have HZ1 := Lib.hid (hz.1.rowB)
      replace HB := Lib.hid (HB.out.trans (hb.mono HB.out.size))
      clear hb
      go_wp2_with fail
      clear hz
      refine (HM1.out z1 _ HX.out HZ1.out).mono ?_
      rintro e w4 ⟨y1, rfl, hz, hb⟩
      replace HX := Lib.hid (HX.out.upE hb)
      replace HA := Lib.hid (HA.out.upE hb)
      replace HV := Lib.hid (HV.out.upE hb)
      replace HZ1 := Lib.hid (HZ1.out.upE hb)
      have HY1 := Lib.hid (hz.1.rowB)
      replace HB := Lib.hid (HB.out.trans (hb.mono HB.out.size))
      clear hb
      go_wp2_with fail
      clear hz
      refine (HC2.out _ HA.out HV.out).mono ?_
      rintro e w5 ⟨z2, rfl, hz, hb⟩
      replace HX := Lib.hid (HX.out.upE hb)
      replace HA := Lib.hid (HA.out.upE hb)
      replace HV := Lib.hid (HV.out.upE hb)
      replace HZ1 := Lib.hid (HZ1.out.upE hb)
      replace HY1 := Lib.hid (HY1.out.upE hb)
      have HZ2 := Lib.hid (hz.1.rowB)
      replace HB := Lib.hid (HB.out.trans (hb.mono HB.out.size))
      clear hb
      go_wp2_with fail
      clear hz
      refine (HM2.out z2 _ HX.out HZ2.out).mono ?_
      rintro e w6 ⟨y2, rfl, hz, hb⟩
      replace HX := Lib.hid (HX.out.upE hb)
      replace HA := Lib.hid (HA.out.upE hb)
      replace HV := Lib.hid (HV.out.upE hb)
      replace HZ1 := Lib.hid (HZ1.out.upE hb)
      replace HY1 := Lib.hid (HY1.out.upE hb)
      replace HZ2 := Lib.hid (HZ2.out.upE hb)
      have HY2 := Lib.hid (hz.1.rowB)
      replace HB := Lib.hid (HB.out.trans (hb.mono HB.out.size))
      clear hb
      go_wp2_with fail
      clear hz
      refine (HEQ.out y1 y2 _ HY1.out HY2.out).mono ?_
      rintro e w7 ⟨rfl, hb⟩
      replace HX := Lib.hid (HX.out.upE hb)
      replace HA := Lib.hid (HA.out.upE hb)
      replace HV := Lib.hid (HV.out.upE hb)
      replace HZ1 := Lib.hid (HZ1.out.upE hb)
      replace HY1 := Lib.hid (HY1.out.upE hb)
      replace HZ2 := Lib.hid (HZ2.out.upE hb)
      replace HY2 := Lib.hid (HY2.out.upE hb)
      replace HB := Lib.hid (HB.out.trans (hb.mono HB.out.size))
      clear hb
      go_wp2_with fail
      go_ret
      exact ⟨rfl, HB.out⟩
set_option maxHeartbeats 4000000 in
set_option maxRecDepth 100000 in
theorem ivos_e (v va : Value) (m : List (List Int)) (a : List Int) (w : World) (h : MatB w.heap.size w v m) (ha : RowB w.heap.size w va a) (hf : RowsFit m) (hla : a.length ≤ 1048576) :
    Calls Tryz.prog 27 #[v, va] w fun e w' => e = .returned (.bool (ivoB m a)) ∧ Below w.heap.size w w' := by
  have HX := Lib.hid h; have HA := Lib.hid ha
  clear h ha
  have HL := Lib.hid (fun (wx : World) (hx : MatB wx.heap.size wx v m) (hy : RowB wx.heap.size wx va a) => lens_any _ _ v va m a wx hx hy (Nat.le_refl _) (Nat.le_refl _) hf hla)
  have HC := Lib.hid (fun (wx : World) (hx : MatB wx.heap.size wx v m) (hy : RowB wx.heap.size wx va a) => coms_e v va va m a a wx hx hy hy hf hla hla)
  have HR := Lib.hid (fun (wx : World) (hy : RowB wx.heap.size wx va a) => revs_any _ va a wx hy (Nat.le_refl _) hla)
  have HS := Lib.hid (fun (z : Value) (wx : World) (hx : MatB wx.heap.size wx v m) (hy : RowB wx.heap.size wx va a) (hz : RowB wx.heap.size wx z a.reverse) => sams_any _ _ _ v va z m a a.reverse wx hx hy hz (Nat.le_refl _) (Nat.le_refl _) (Nat.le_refl _) hf hla (by rw [List.length_reverse]; exact hla))
  rw [show ivoB m a = (decide (0 < lenI m a) && comB m a a && samB m a a.reverse) from rfl]
  clear hf
  generalize samB m a a.reverse = sb at *
  generalize comB m a a = cb at *
  generalize lenI m a = n at *
  generalize a.reverse = ar at *
  by_cases hn : 0 < n
  case neg =>
    have hd : decide (0 < n) = false := decide_eq_false hn
    rw [hd, Bool.false_and, Bool.false_and]
    clear HC HR HS
    have HB := Lib.hid (Below.refl w.heap.size w)
    go_enter Tryz.func27, Tryz.ntmps27
    go_wp2_with fail
    refine (HL.out _ HX.out HA.out).mono ?_
    rintro e w1 ⟨rfl, hb⟩
    replace HX := Lib.hid (HX.out.upE hb)
    replace HA := Lib.hid (HA.out.upE hb)
    replace HB := Lib.hid (HB.out.trans (hb.mono HB.out.size))
    clear hb
    go_wp2_with fail
    go_ret
    exact ⟨rfl, HB.out⟩
  case pos =>
    have hd : decide (0 < n) = true := decide_eq_true hn
    rw [hd, Bool.true_and]
    cases cb
    case false =>
      rw [Bool.false_and]
      clear HR HS
      have HB := Lib.hid (Below.refl w.heap.size w)
      go_enter Tryz.func27, Tryz.ntmps27
      go_wp2_with fail
      refine (HL.out _ HX.out HA.out).mono ?_
      rintro e w1 ⟨rfl, hb⟩
      replace HX := Lib.hid (HX.out.upE hb)
      replace HA := Lib.hid (HA.out.upE hb)
      replace HB := Lib.hid (HB.out.trans (hb.mono HB.out.size))
      clear hb
      go_wp2_with fail
      refine (HC.out _ HX.out HA.out).mono ?_
      rintro e w2 ⟨rfl, hb⟩
      replace HX := Lib.hid (HX.out.upE hb)
      replace HA := Lib.hid (HA.out.upE hb)
      replace HB := Lib.hid (HB.out.trans (hb.mono HB.out.size))
      clear hb
      go_wp2_with fail
      go_ret
      exact ⟨rfl, HB.out⟩
    case true =>
      rw [Bool.true_and]
      have HB := Lib.hid (Below.refl w.heap.size w)
      go_enter Tryz.func27, Tryz.ntmps27
      go_wp2_with fail
      refine (HL.out _ HX.out HA.out).mono ?_
      rintro e w1 ⟨rfl, hb⟩
      replace HX := Lib.hid (HX.out.upE hb)
      replace HA := Lib.hid (HA.out.upE hb)
      replace HB := Lib.hid (HB.out.trans (hb.mono HB.out.size))
      clear hb
      go_wp2_with fail
      refine (HC.out _ HX.out HA.out).mono ?_
      rintro e w2 ⟨rfl, hb⟩
      replace HX := Lib.hid (HX.out.upE hb)
      replace HA := Lib.hid (HA.out.upE hb)
      replace HB := Lib.hid (HB.out.trans (hb.mono HB.out.size))
      clear hb
      go_wp2_with fail
      refine (HR.out _ HA.out).mono ?_
      rintro e w3 ⟨z, rfl, hz, hb⟩
      replace HX := Lib.hid (HX.out.upE hb)
      replace HA := Lib.hid (HA.out.upE hb)
      have HZ := Lib.hid (hz.1.rowB)
      replace HB := Lib.hid (HB.out.trans (hb.mono HB.out.size))
      clear hb
      go_wp2_with fail
      clear hz
      refine (HS.out z _ HX.out HA.out HZ.out).mono ?_
      rintro e w4 ⟨rfl, hb⟩
      replace HX := Lib.hid (HX.out.upE hb)
      replace HA := Lib.hid (HA.out.upE hb)
      replace HZ := Lib.hid (HZ.out.upE hb)
      replace HB := Lib.hid (HB.out.trans (hb.mono HB.out.size))
      clear hb
      go_wp2_with fail
      go_ret
      exact ⟨rfl, HB.out⟩
end Go.Proofs.YtnlbmnielemgiaaGreat
