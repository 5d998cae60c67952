/-
  Proved here: for every byte slice, the law FnLengths answers true: a letter makes an element longer or shorter by one, shorter exactly if it is a descent, and the normal form is the least reduced word.
-/
import Derived.Test.YtnlbmnielemgiaaFl44
namespace Go.Proofs.Ytnlbmnielemgiaa
open Go.ChangeShapes Go.WideShapes Go.ChangeAt Go.ChangeMaps Go.RowKit

set_option maxHeartbeats 16000000 in
set_option maxRecDepth 100000 in
theorem fl_law (a : Option Addr) (len cap : Nat) (w : World) (hl : len ≤ 1048576) (hcode : CodeB w.heap.size w (.slice a len cap) len) :
    Calls Try.prog 3 #[.slice a len cap] w fun e w' => e = .returned (.bool true) ∧ Below w.heap.size w w' := by
  have HC := Lib.hid hcode; clear hcode
  have hbig : decide (1048576 < (len : Int)) = false := by rw [decide_eq_false_iff_not]; omega
  go_enter Try.func3, Try.ntmps3
  go_wp2_with fail
  refine (big_w _ a len cap (by omega)).mono ?_
  rintro e w0 ⟨rfl, rfl⟩
  have HB := Lib.hid (Below.refl w.heap.size w)
  go_wp2_with fail
  refine (drawNf_any w.heap.size _ _ len hl (HC.out.below HB.out) HB.out.size).mono ?_
  rintro e w1 ⟨x, y, m, l, rfl, hb, h1, h2, h3, h4⟩
  replace HB := Lib.hid (HB.out.trans (hb.mono HB.out.size))
  have HX := Lib.hid (h1.mat)
  have HY := Lib.hid (h3.1.rowB)
  clear hb
  go_wp2_with fail
  have HA := Lib.hid h2; have HLL := Lib.hid h4
  clear h1 h2 h3 h4
  have HLM := Lib.hid (show l.length ≤ maxLen by have := HLL.out; unfold maxLen; omega)
  have HL1 := Lib.hid (show l.length ≤ 1048576 by have := HLL.out; omega)
  have HNI := Lib.hid (fun (wx : World) (hx : MatB wx.heap.size wx x m) (hy : RowB wx.heap.size wx y l) => nrmi_any _ _ x y m l wx hx hy (Nat.le_refl _) (Nat.le_refl _) HA.out.fit HL1.out)
  have HNS := Lib.hid (fun (wx : World) (hx : MatB wx.heap.size wx x m) (hy : RowB wx.heap.size wx y l) => nrms_any _ _ x y m l wx hx hy (Nat.le_refl _) (Nat.le_refl _) HA.out.fit HL1.out)
  have HLI := Lib.hid (fun (wx : World) (hx : MatB wx.heap.size wx x m) (hy : RowB wx.heap.size wx y l) => leni_any _ _ x y m l wx hx hy (Nat.le_refl _) (Nat.le_refl _) HA.out.fit HL1.out)
  have HLS := Lib.hid (fun (wx : World) (hx : MatB wx.heap.size wx x m) (hy : RowB wx.heap.size wx y l) => lens_any _ _ x y m l wx hx hy (Nat.le_refl _) (Nat.le_refl _) HA.out.fit HL1.out)
  have HDI := Lib.hid (fun (wx : World) (hx : MatB wx.heap.size wx x m) (hy : RowB wx.heap.size wx y l) => ldsi_any _ _ x y m l wx hx hy (Nat.le_refl _) (Nat.le_refl _) HA.out.fit HL1.out)
  have HDS := Lib.hid (fun (wx : World) (hx : MatB wx.heap.size wx x m) (hy : RowB wx.heap.size wx y l) => ldss_any _ _ x y m l wx hx hy (Nat.le_refl _) (Nat.le_refl _) HA.out.fit HL1.out)
  have HEI := Lib.hid (fun (wx : World) (hx : MatB wx.heap.size wx x m) (hy : RowB wx.heap.size wx y l) => rdsi_any _ _ x y m l wx hx hy (Nat.le_refl _) (Nat.le_refl _) HA.out.fit HL1.out)
  have HES := Lib.hid (fun (wx : World) (hx : MatB wx.heap.size wx x m) (hy : RowB wx.heap.size wx y l) => rdss_any _ _ x y m l wx hx hy (Nat.le_refl _) (Nat.le_refl _) HA.out.fit HL1.out)
  have HRI := Lib.hid (fun (wx : World) (hx : MatB wx.heap.size wx x m) (hy : RowB wx.heap.size wx y l) => isrdi_any _ _ x y m l wx hx hy (Nat.le_refl _) (Nat.le_refl _) HA.out.fit HL1.out)
  have HRS := Lib.hid (fun (wx : World) (hx : MatB wx.heap.size wx x m) (hy : RowB wx.heap.size wx y l) => isrd_any _ _ x y m l wx hx hy (Nat.le_refl _) (Nat.le_refl _) HA.out.fit HL1.out)
  have HSI := Lib.hid (fun (wx : World) (hy : RowB wx.heap.size wx y l) => sig8i_any _ y l wx hy HL1.out)
  have HSS := Lib.hid (fun (wx : World) (hy : RowB wx.heap.size wx y l) => sig8_any _ y l wx hy HL1.out)
  have HNM := Lib.hid (show (nrmL m l).length ≤ maxLen by have := nrmL_len m l; unfold maxLen; omega)
  have HN1 := Lib.hid (show (nrmL m l).length ≤ 1048576 by have := nrmL_len m l; omega)
  have HDM := Lib.hid (show (ldsL m l).length ≤ maxLen by have := ldsL_len m l; unfold maxLen; omega)
  have HEM := Lib.hid (show (ldsL m l.reverse).length ≤ maxLen by have := ldsL_len m l.reverse; unfold maxLen; omega)
  by_cases hW : IsW m l
  case neg =>
    have HWB := Lib.hid (wordB_no hW)
    clear hW
    rw [HWB.out] at HNI HNS
    refine (HNI.out _ HX.out HY.out).mono ?_
    rintro e w2 ⟨xn, rfl, h1, hb⟩
    replace HB := Lib.hid (HB.out.trans (hb.mono HB.out.size))
    replace HX := Lib.hid (HX.out.upW hb)
    replace HY := Lib.hid (HY.out.upW hb)
    have HXN := Lib.hid (h1.1.rowB)
    clear hb
    go_wp2_with fail
    clear h1
    refine (HNS.out _ HX.out HY.out).mono ?_
    rintro e w3 ⟨yn, rfl, h1, hb⟩
    replace HB := Lib.hid (HB.out.trans (hb.mono HB.out.size))
    replace HX := Lib.hid (HX.out.upW hb)
    replace HY := Lib.hid (HY.out.upW hb)
    replace HXN := Lib.hid (HXN.out.upW hb)
    have HYN := Lib.hid (h1.1.rowB)
    clear hb
    go_wp2_with fail
    clear h1
    have hln : (lenI m l != lenI m l) = false := by simp
    refine (HLI.out _ HX.out HY.out).mono ?_
    rintro e w4 ⟨rfl, hb⟩
    replace HB := Lib.hid (HB.out.trans (hb.mono HB.out.size))
    replace HX := Lib.hid (HX.out.upW hb)
    replace HY := Lib.hid (HY.out.upW hb)
    replace HXN := Lib.hid (HXN.out.upW hb)
    replace HYN := Lib.hid (HYN.out.upW hb)
    clear hb
    go_wp2_with fail
    refine (smS_w _ _ (nrmL m l) _ HXN.out HYN.out HNM.out).mono ?_
    rintro e w5 ⟨rfl, hb⟩
    replace HB := Lib.hid (HB.out.trans (hb.mono HB.out.size))
    replace HX := Lib.hid (HX.out.upW hb)
    replace HY := Lib.hid (HY.out.upW hb)
    replace HXN := Lib.hid (HXN.out.upW hb)
    replace HYN := Lib.hid (HYN.out.upW hb)
    clear hb
    go_wp2_with fail
    refine (HLS.out _ HX.out HY.out).mono ?_
    rintro e w6 ⟨rfl, hb⟩
    replace HB := Lib.hid (HB.out.trans (hb.mono HB.out.size))
    replace HX := Lib.hid (HX.out.upW hb)
    replace HY := Lib.hid (HY.out.upW hb)
    replace HXN := Lib.hid (HXN.out.upW hb)
    replace HYN := Lib.hid (HYN.out.upW hb)
    clear hb
    go_wp2_with fail
    refine (HDI.out _ HX.out HY.out).mono ?_
    rintro e w7 ⟨d1, rfl, h1, hb⟩
    replace HB := Lib.hid (HB.out.trans (hb.mono HB.out.size))
    replace HX := Lib.hid (HX.out.upW hb)
    replace HY := Lib.hid (HY.out.upW hb)
    replace HXN := Lib.hid (HXN.out.upW hb)
    replace HYN := Lib.hid (HYN.out.upW hb)
    have HD1 := Lib.hid (h1.1.rowB)
    clear hb
    go_wp2_with fail
    clear h1
    refine (HDS.out _ HX.out HY.out).mono ?_
    rintro e w8 ⟨d2, rfl, h1, hb⟩
    replace HB := Lib.hid (HB.out.trans (hb.mono HB.out.size))
    replace HX := Lib.hid (HX.out.upW hb)
    replace HY := Lib.hid (HY.out.upW hb)
    replace HXN := Lib.hid (HXN.out.upW hb)
    replace HYN := Lib.hid (HYN.out.upW hb)
    replace HD1 := Lib.hid (HD1.out.upW hb)
    have HD2 := Lib.hid (h1.1.rowB)
    clear hb
    go_wp2_with fail
    clear h1
    refine (smS_w _ _ (ldsL m l) _ HD1.out HD2.out HDM.out).mono ?_
    rintro e w9 ⟨rfl, hb⟩
    replace HB := Lib.hid (HB.out.trans (hb.mono HB.out.size))
    replace HX := Lib.hid (HX.out.upW hb)
    replace HY := Lib.hid (HY.out.upW hb)
    replace HXN := Lib.hid (HXN.out.upW hb)
    replace HYN := Lib.hid (HYN.out.upW hb)
    replace HD1 := Lib.hid (HD1.out.upW hb)
    replace HD2 := Lib.hid (HD2.out.upW hb)
    clear HD1
    clear HD2
    clear hb
    go_wp2_with fail
    refine (HEI.out _ HX.out HY.out).mono ?_
    rintro e w10 ⟨d1, rfl, h1, hb⟩
    replace HB := Lib.hid (HB.out.trans (hb.mono HB.out.size))
    replace HX := Lib.hid (HX.out.upW hb)
    replace HY := Lib.hid (HY.out.upW hb)
    replace HXN := Lib.hid (HXN.out.upW hb)
    replace HYN := Lib.hid (HYN.out.upW hb)
    have HD1 := Lib.hid (h1.1.rowB)
    clear hb
    go_wp2_with fail
    clear h1
    refine (HES.out _ HX.out HY.out).mono ?_
    rintro e w11 ⟨d2, rfl, h1, hb⟩
    replace HB := Lib.hid (HB.out.trans (hb.mono HB.out.size))
    replace HX := Lib.hid (HX.out.upW hb)
    replace HY := Lib.hid (HY.out.upW hb)
    replace HXN := Lib.hid (HXN.out.upW hb)
    replace HYN := Lib.hid (HYN.out.upW hb)
    replace HD1 := Lib.hid (HD1.out.upW hb)
    have HD2 := Lib.hid (h1.1.rowB)
    clear hb
    go_wp2_with fail
    clear h1
    refine (smS_w _ _ (ldsL m l.reverse) _ HD1.out HD2.out HEM.out).mono ?_
    rintro e w12 ⟨rfl, hb⟩
    replace HB := Lib.hid (HB.out.trans (hb.mono HB.out.size))
    replace HX := Lib.hid (HX.out.upW hb)
    replace HY := Lib.hid (HY.out.upW hb)
    replace HXN := Lib.hid (HXN.out.upW hb)
    replace HYN := Lib.hid (HYN.out.upW hb)
    replace HD1 := Lib.hid (HD1.out.upW hb)
    replace HD2 := Lib.hid (HD2.out.upW hb)
    clear HD1
    clear HD2
    clear hb
    go_wp2_with fail
    have hrb : ((lenI m l == (l.length : Int)) != (lenI m l == (l.length : Int))) = false := by simp
    refine (HRI.out _ HX.out HY.out).mono ?_
    rintro e w13 ⟨rfl, hb⟩
    replace HB := Lib.hid (HB.out.trans (hb.mono HB.out.size))
    replace HX := Lib.hid (HX.out.upW hb)
    replace HY := Lib.hid (HY.out.upW hb)
    replace HXN := Lib.hid (HXN.out.upW hb)
    replace HYN := Lib.hid (HYN.out.upW hb)
    clear hb
    go_wp2_with fail
    refine (HRS.out _ HX.out HY.out).mono ?_
    rintro e w14 ⟨rfl, hb⟩
    replace HB := Lib.hid (HB.out.trans (hb.mono HB.out.size))
    replace HX := Lib.hid (HX.out.upW hb)
    replace HY := Lib.hid (HY.out.upW hb)
    replace HXN := Lib.hid (HXN.out.upW hb)
    replace HYN := Lib.hid (HYN.out.upW hb)
    clear hb
    go_wp2_with fail
    clear HNI HNS HLI HLS HDI HDS HEI HES HRI HRS hln hrb
    refine (drawSm_any w.heap.size _ _ len hl (HC.out.below HB.out) HB.out.size).mono ?_
    rintro e w15 ⟨xd, va, vb, md, la, lb, rfl, hb, h1, h2, h3, h4, h5, h6⟩
    replace HB := Lib.hid (HB.out.trans (hb.mono HB.out.size))
    replace HX := Lib.hid (HX.out.upW hb)
    replace HY := Lib.hid (HY.out.upW hb)
    replace HXN := Lib.hid (HXN.out.upW hb)
    replace HYN := Lib.hid (HYN.out.upW hb)
    have HXD := Lib.hid (h1.mat)
    have HVA := Lib.hid (h3.1.rowB)
    have HVB := Lib.hid (h5.1.rowB)
    clear hb
    go_wp2_with fail
    have HDA := Lib.hid h2; have HLA := Lib.hid h4; have HLB := Lib.hid h6
    clear h1 h2 h3 h4 h5 h6
    refine (drawOe_any w.heap.size _ _ len hl (HC.out.below HB.out) HB.out.size).mono ?_
    rintro e w16 ⟨xe, vf, me, lf, rfl, hb, h1, h2, h3, h4⟩
    replace HB := Lib.hid (HB.out.trans (hb.mono HB.out.size))
    replace HX := Lib.hid (HX.out.upW hb)
    replace HY := Lib.hid (HY.out.upW hb)
    replace HXN := Lib.hid (HXN.out.upW hb)
    replace HYN := Lib.hid (HYN.out.upW hb)
    replace HXD := Lib.hid (HXD.out.upW hb)
    replace HVA := Lib.hid (HVA.out.upW hb)
    replace HVB := Lib.hid (HVB.out.upW hb)
    have HXE := Lib.hid (h1.mat)
    have HVF := Lib.hid (h3.1.rowB)
    clear hb
    go_wp2_with fail
    have HEA := Lib.hid h2; have HLF := Lib.hid h4
    clear h1 h2 h3 h4
    have HSMI := Lib.hid (fun (wx : World) (hx : MatB wx.heap.size wx xd md) (h1 : RowB wx.heap.size wx va la) (h2 : RowB wx.heap.size wx vb lb) => sami_any _ _ _ xd va vb md la lb wx hx h1 h2 (Nat.le_refl _) (Nat.le_refl _) (Nat.le_refl _) HDA.out.fit (by have := HLA.out; omega) (by have := HLB.out; omega))
    have HSMS := Lib.hid (fun (wx : World) (hx : MatB wx.heap.size wx xd md) (h1 : RowB wx.heap.size wx va la) (h2 : RowB wx.heap.size wx vb lb) => sams_any _ _ _ xd va vb md la lb wx hx h1 h2 (Nat.le_refl _) (Nat.le_refl _) (Nat.le_refl _) HDA.out.fit (by have := HLA.out; omega) (by have := HLB.out; omega))
    have HORI := Lib.hid (fun (wx : World) (hx : MatB wx.heap.size wx xe me) (h1 : RowB wx.heap.size wx vf lf) => ordi_any _ _ xe vf me lf wx hx h1 (Nat.le_refl _) (Nat.le_refl _) HEA.out.fit (by have := HLF.out; omega))
    have HORS := Lib.hid (fun (wx : World) (hx : MatB wx.heap.size wx xe me) (h1 : RowB wx.heap.size wx vf lf) => ords_any _ _ xe vf me lf wx hx h1 (Nat.le_refl _) (Nat.le_refl _) HEA.out.fit (by have := HLF.out; omega))
    generalize samB md la lb = sb at *
    generalize ordI me lf = ov at *
    generalize sgn8 l.length = sg at *
    have hsb : (sb == sb) = true := by simp
    have hov : (ov == ov) = true := by simp
    have hsg : (sg == sg) = true := by simp
    refine (HSMI.out _ HXD.out HVA.out HVB.out).mono ?_
    rintro e w17 ⟨rfl, hb⟩
    replace HB := Lib.hid (HB.out.trans (hb.mono HB.out.size))
    replace HX := Lib.hid (HX.out.upW hb)
    replace HY := Lib.hid (HY.out.upW hb)
    replace HXN := Lib.hid (HXN.out.upW hb)
    replace HYN := Lib.hid (HYN.out.upW hb)
    replace HXD := Lib.hid (HXD.out.upW hb)
    replace HVA := Lib.hid (HVA.out.upW hb)
    replace HVB := Lib.hid (HVB.out.upW hb)
    replace HXE := Lib.hid (HXE.out.upW hb)
    replace HVF := Lib.hid (HVF.out.upW hb)
    clear hb
    go_wp2_with fail
    refine (HSMS.out _ HXD.out HVA.out HVB.out).mono ?_
    rintro e w18 ⟨rfl, hb⟩
    replace HB := Lib.hid (HB.out.trans (hb.mono HB.out.size))
    replace HX := Lib.hid (HX.out.upW hb)
    replace HY := Lib.hid (HY.out.upW hb)
    replace HXN := Lib.hid (HXN.out.upW hb)
    replace HYN := Lib.hid (HYN.out.upW hb)
    replace HXD := Lib.hid (HXD.out.upW hb)
    replace HVA := Lib.hid (HVA.out.upW hb)
    replace HVB := Lib.hid (HVB.out.upW hb)
    replace HXE := Lib.hid (HXE.out.upW hb)
    replace HVF := Lib.hid (HVF.out.upW hb)
    clear hb
    go_wp2_with fail
    refine (HORI.out _ HXE.out HVF.out).mono ?_
    rintro e w19 ⟨rfl, hb⟩
    replace HB := Lib.hid (HB.out.trans (hb.mono HB.out.size))
    replace HX := Lib.hid (HX.out.upW hb)
    replace HY := Lib.hid (HY.out.upW hb)
    replace HXN := Lib.hid (HXN.out.upW hb)
    replace HYN := Lib.hid (HYN.out.upW hb)
    replace HXD := Lib.hid (HXD.out.upW hb)
    replace HVA := Lib.hid (HVA.out.upW hb)
    replace HVB := Lib.hid (HVB.out.upW hb)
    replace HXE := Lib.hid (HXE.out.upW hb)
    replace HVF := Lib.hid (HVF.out.upW hb)
    clear hb
    go_wp2_with fail
    refine (HORS.out _ HXE.out HVF.out).mono ?_
    rintro e w20 ⟨rfl, hb⟩
    replace HB := Lib.hid (HB.out.trans (hb.mono HB.out.size))
    replace HX := Lib.hid (HX.out.upW hb)
    replace HY := Lib.hid (HY.out.upW hb)
    replace HXN := Lib.hid (HXN.out.upW hb)
    replace HYN := Lib.hid (HYN.out.upW hb)
    replace HXD := Lib.hid (HXD.out.upW hb)
    replace HVA := Lib.hid (HVA.out.upW hb)
    replace HVB := Lib.hid (HVB.out.upW hb)
    replace HXE := Lib.hid (HXE.out.upW hb)
    replace HVF := Lib.hid (HVF.out.upW hb)
    clear hb
    go_wp2_with fail
    refine (HSI.out _ HY.out).mono ?_
    rintro e w21 ⟨rfl, hb⟩
    replace HB := Lib.hid (HB.out.trans (hb.mono HB.out.size))
    replace HX := Lib.hid (HX.out.upW hb)
    replace HY := Lib.hid (HY.out.upW hb)
    replace HXN := Lib.hid (HXN.out.upW hb)
    replace HYN := Lib.hid (HYN.out.upW hb)
    replace HXD := Lib.hid (HXD.out.upW hb)
    replace HVA := Lib.hid (HVA.out.upW hb)
    replace HVB := Lib.hid (HVB.out.upW hb)
    replace HXE := Lib.hid (HXE.out.upW hb)
    replace HVF := Lib.hid (HVF.out.upW hb)
    clear hb
    go_wp2_with fail
    refine (HSS.out _ HY.out).mono ?_
    rintro e w22 ⟨rfl, hb⟩
    replace HB := Lib.hid (HB.out.trans (hb.mono HB.out.size))
    replace HX := Lib.hid (HX.out.upW hb)
    replace HY := Lib.hid (HY.out.upW hb)
    replace HXN := Lib.hid (HXN.out.upW hb)
    replace HYN := Lib.hid (HYN.out.upW hb)
    replace HXD := Lib.hid (HXD.out.upW hb)
    replace HVA := Lib.hid (HVA.out.upW hb)
    replace HVB := Lib.hid (HVB.out.upW hb)
    replace HXE := Lib.hid (HXE.out.upW hb)
    replace HVF := Lib.hid (HVF.out.upW hb)
    clear hb
    go_wp2_with fail
    go_ret
    exact ⟨rfl, HB.out⟩
  case pos =>
    have HWB := Lib.hid (wordB_yes hW)
    have HWW := Lib.hid hW; clear hW
    rw [HWB.out] at HNI HNS
    refine (HNI.out _ HX.out HY.out).mono ?_
    rintro e w2 ⟨xn, rfl, h1, hb⟩
    replace HB := Lib.hid (HB.out.trans (hb.mono HB.out.size))
    replace HX := Lib.hid (HX.out.upW hb)
    replace HY := Lib.hid (HY.out.upW hb)
    have HXN := Lib.hid (h1.1.rowB)
    clear hb
    go_wp2_with fail
    clear h1
    refine (HNS.out _ HX.out HY.out).mono ?_
    rintro e w3 ⟨yn, rfl, h1, hb⟩
    replace HB := Lib.hid (HB.out.trans (hb.mono HB.out.size))
    replace HX := Lib.hid (HX.out.upW hb)
    replace HY := Lib.hid (HY.out.upW hb)
    replace HXN := Lib.hid (HXN.out.upW hb)
    have HYN := Lib.hid (h1.1.rowB)
    clear hb
    go_wp2_with fail
    clear h1
    have hln : (lenI m l != lenI m l) = false := by simp
    refine (HLI.out _ HX.out HY.out).mono ?_
    rintro e w4 ⟨rfl, hb⟩
    replace HB := Lib.hid (HB.out.trans (hb.mono HB.out.size))
    replace HX := Lib.hid (HX.out.upW hb)
    replace HY := Lib.hid (HY.out.upW hb)
    replace HXN := Lib.hid (HXN.out.upW hb)
    replace HYN := Lib.hid (HYN.out.upW hb)
    clear hb
    go_wp2_with fail
    refine (smS_w _ _ (nrmL m l) _ HXN.out HYN.out HNM.out).mono ?_
    rintro e w5 ⟨rfl, hb⟩
    replace HB := Lib.hid (HB.out.trans (hb.mono HB.out.size))
    replace HX := Lib.hid (HX.out.upW hb)
    replace HY := Lib.hid (HY.out.upW hb)
    replace HXN := Lib.hid (HXN.out.upW hb)
    replace HYN := Lib.hid (HYN.out.upW hb)
    clear hb
    go_wp2_with fail
    refine (HLS.out _ HX.out HY.out).mono ?_
    rintro e w6 ⟨rfl, hb⟩
    replace HB := Lib.hid (HB.out.trans (hb.mono HB.out.size))
    replace HX := Lib.hid (HX.out.upW hb)
    replace HY := Lib.hid (HY.out.upW hb)
    replace HXN := Lib.hid (HXN.out.upW hb)
    replace HYN := Lib.hid (HYN.out.upW hb)
    clear hb
    go_wp2_with fail
    refine (HDI.out _ HX.out HY.out).mono ?_
    rintro e w7 ⟨d1, rfl, h1, hb⟩
    replace HB := Lib.hid (HB.out.trans (hb.mono HB.out.size))
    replace HX := Lib.hid (HX.out.upW hb)
    replace HY := Lib.hid (HY.out.upW hb)
    replace HXN := Lib.hid (HXN.out.upW hb)
    replace HYN := Lib.hid (HYN.out.upW hb)
    have HD1 := Lib.hid (h1.1.rowB)
    clear hb
    go_wp2_with fail
    clear h1
    refine (HDS.out _ HX.out HY.out).mono ?_
    rintro e w8 ⟨d2, rfl, h1, hb⟩
    replace HB := Lib.hid (HB.out.trans (hb.mono HB.out.size))
    replace HX := Lib.hid (HX.out.upW hb)
    replace HY := Lib.hid (HY.out.upW hb)
    replace HXN := Lib.hid (HXN.out.upW hb)
    replace HYN := Lib.hid (HYN.out.upW hb)
    replace HD1 := Lib.hid (HD1.out.upW hb)
    have HD2 := Lib.hid (h1.1.rowB)
    clear hb
    go_wp2_with fail
    clear h1
    refine (smS_w _ _ (ldsL m l) _ HD1.out HD2.out HDM.out).mono ?_
    rintro e w9 ⟨rfl, hb⟩
    replace HB := Lib.hid (HB.out.trans (hb.mono HB.out.size))
    replace HX := Lib.hid (HX.out.upW hb)
    replace HY := Lib.hid (HY.out.upW hb)
    replace HXN := Lib.hid (HXN.out.upW hb)
    replace HYN := Lib.hid (HYN.out.upW hb)
    replace HD1 := Lib.hid (HD1.out.upW hb)
    replace HD2 := Lib.hid (HD2.out.upW hb)
    clear HD1
    clear HD2
    clear hb
    go_wp2_with fail
    refine (HEI.out _ HX.out HY.out).mono ?_
    rintro e w10 ⟨d1, rfl, h1, hb⟩
    replace HB := Lib.hid (HB.out.trans (hb.mono HB.out.size))
    replace HX := Lib.hid (HX.out.upW hb)
    replace HY := Lib.hid (HY.out.upW hb)
    replace HXN := Lib.hid (HXN.out.upW hb)
    replace HYN := Lib.hid (HYN.out.upW hb)
    have HD1 := Lib.hid (h1.1.rowB)
    clear hb
    go_wp2_with fail
    clear h1
    refine (HES.out _ HX.out HY.out).mono ?_
    rintro e w11 ⟨d2, rfl, h1, hb⟩
    replace HB := Lib.hid (HB.out.trans (hb.mono HB.out.size))
    replace HX := Lib.hid (HX.out.upW hb)
    replace HY := Lib.hid (HY.out.upW hb)
    replace HXN := Lib.hid (HXN.out.upW hb)
    replace HYN := Lib.hid (HYN.out.upW hb)
    replace HD1 := Lib.hid (HD1.out.upW hb)
    have HD2 := Lib.hid (h1.1.rowB)
    clear hb
    go_wp2_with fail
    clear h1
    refine (smS_w _ _ (ldsL m l.reverse) _ HD1.out HD2.out HEM.out).mono ?_
    rintro e w12 ⟨rfl, hb⟩
    replace HB := Lib.hid (HB.out.trans (hb.mono HB.out.size))
    replace HX := Lib.hid (HX.out.upW hb)
    replace HY := Lib.hid (HY.out.upW hb)
    replace HXN := Lib.hid (HXN.out.upW hb)
    replace HYN := Lib.hid (HYN.out.upW hb)
    replace HD1 := Lib.hid (HD1.out.upW hb)
    replace HD2 := Lib.hid (HD2.out.upW hb)
    clear HD1
    clear HD2
    clear hb
    go_wp2_with fail
    have hrb : ((lenI m l == (l.length : Int)) != (lenI m l == (l.length : Int))) = false := by simp
    refine (HRI.out _ HX.out HY.out).mono ?_
    rintro e w13 ⟨rfl, hb⟩
    replace HB := Lib.hid (HB.out.trans (hb.mono HB.out.size))
    replace HX := Lib.hid (HX.out.upW hb)
    replace HY := Lib.hid (HY.out.upW hb)
    replace HXN := Lib.hid (HXN.out.upW hb)
    replace HYN := Lib.hid (HYN.out.upW hb)
    clear hb
    go_wp2_with fail
    clear HNI HNS HLS HDI HEI HRI hln
    by_cases h15 : l.length < 15
    case neg =>
      obtain ⟨ya, ycap, rfl⟩ := HY.out.slice
      have hd15 : decide ((l.length : Int) < 15) = false := decide_eq_false (by omega)
      have hq15 : ¬ (l.length : Int) < 15 := by omega
      clear HLI HDS HES h15
      refine (HRS.out _ HX.out HY.out).mono ?_
      rintro e w14 ⟨rfl, hb⟩
      replace HB := Lib.hid (HB.out.trans (hb.mono HB.out.size))
      replace HX := Lib.hid (HX.out.upW hb)
      replace HY := Lib.hid (HY.out.upW hb)
      replace HXN := Lib.hid (HXN.out.upW hb)
      replace HYN := Lib.hid (HYN.out.upW hb)
      clear hb
      go_wp2_with fail
      clear HRS hrb
      refine (drawSm_any w.heap.size _ _ len hl (HC.out.below HB.out) HB.out.size).mono ?_
      rintro e w15 ⟨xd, va, vb, md, la, lb, rfl, hb, h1, h2, h3, h4, h5, h6⟩
      replace HB := Lib.hid (HB.out.trans (hb.mono HB.out.size))
      replace HX := Lib.hid (HX.out.upW hb)
      replace HY := Lib.hid (HY.out.upW hb)
      replace HXN := Lib.hid (HXN.out.upW hb)
      replace HYN := Lib.hid (HYN.out.upW hb)
      have HXD := Lib.hid (h1.mat)
      have HVA := Lib.hid (h3.1.rowB)
      have HVB := Lib.hid (h5.1.rowB)
      clear hb
      go_wp2_with fail
      have HDA := Lib.hid h2; have HLA := Lib.hid h4; have HLB := Lib.hid h6
      clear h1 h2 h3 h4 h5 h6
      refine (drawOe_any w.heap.size _ _ len hl (HC.out.below HB.out) HB.out.size).mono ?_
      rintro e w16 ⟨xe, vf, me, lf, rfl, hb, h1, h2, h3, h4⟩
      replace HB := Lib.hid (HB.out.trans (hb.mono HB.out.size))
      replace HX := Lib.hid (HX.out.upW hb)
      replace HY := Lib.hid (HY.out.upW hb)
      replace HXN := Lib.hid (HXN.out.upW hb)
      replace HYN := Lib.hid (HYN.out.upW hb)
      replace HXD := Lib.hid (HXD.out.upW hb)
      replace HVA := Lib.hid (HVA.out.upW hb)
      replace HVB := Lib.hid (HVB.out.upW hb)
      have HXE := Lib.hid (h1.mat)
      have HVF := Lib.hid (h3.1.rowB)
      clear hb
      go_wp2_with fail
      have HEA := Lib.hid h2; have HLF := Lib.hid h4
      clear h1 h2 h3 h4
      have HSMI := Lib.hid (fun (wx : World) (hx : MatB wx.heap.size wx xd md) (h1 : RowB wx.heap.size wx va la) (h2 : RowB wx.heap.size wx vb lb) => sami_any _ _ _ xd va vb md la lb wx hx h1 h2 (Nat.le_refl _) (Nat.le_refl _) (Nat.le_refl _) HDA.out.fit (by have := HLA.out; omega) (by have := HLB.out; omega))
      have HSMS := Lib.hid (fun (wx : World) (hx : MatB wx.heap.size wx xd md) (h1 : RowB wx.heap.size wx va la) (h2 : RowB wx.heap.size wx vb lb) => sams_any _ _ _ xd va vb md la lb wx hx h1 h2 (Nat.le_refl _) (Nat.le_refl _) (Nat.le_refl _) HDA.out.fit (by have := HLA.out; omega) (by have := HLB.out; omega))
      have HORI := Lib.hid (fun (wx : World) (hx : MatB wx.heap.size wx xe me) (h1 : RowB wx.heap.size wx vf lf) => ordi_any _ _ xe vf me lf wx hx h1 (Nat.le_refl _) (Nat.le_refl _) HEA.out.fit (by have := HLF.out; omega))
      have HORS := Lib.hid (fun (wx : World) (hx : MatB wx.heap.size wx xe me) (h1 : RowB wx.heap.size wx vf lf) => ords_any _ _ xe vf me lf wx hx h1 (Nat.le_refl _) (Nat.le_refl _) HEA.out.fit (by have := HLF.out; omega))
      generalize samB md la lb = sb at *
      generalize ordI me lf = ov at *
      generalize sgn8 l.length = sg at *
      have hsb : (sb == sb) = true := by simp
      have hov : (ov == ov) = true := by simp
      have hsg : (sg == sg) = true := by simp
      refine (HSMI.out _ HXD.out HVA.out HVB.out).mono ?_
      rintro e w17 ⟨rfl, hb⟩
      replace HB := Lib.hid (HB.out.trans (hb.mono HB.out.size))
      replace HX := Lib.hid (HX.out.upW hb)
      replace HY := Lib.hid (HY.out.upW hb)
      replace HXN := Lib.hid (HXN.out.upW hb)
      replace HYN := Lib.hid (HYN.out.upW hb)
      replace HXD := Lib.hid (HXD.out.upW hb)
      replace HVA := Lib.hid (HVA.out.upW hb)
      replace HVB := Lib.hid (HVB.out.upW hb)
      replace HXE := Lib.hid (HXE.out.upW hb)
      replace HVF := Lib.hid (HVF.out.upW hb)
      clear hb
      go_wp2_with fail
      refine (HSMS.out _ HXD.out HVA.out HVB.out).mono ?_
      rintro e w18 ⟨rfl, hb⟩
      replace HB := Lib.hid (HB.out.trans (hb.mono HB.out.size))
      replace HX := Lib.hid (HX.out.upW hb)
      replace HY := Lib.hid (HY.out.upW hb)
      replace HXN := Lib.hid (HXN.out.upW hb)
      replace HYN := Lib.hid (HYN.out.upW hb)
      replace HXD := Lib.hid (HXD.out.upW hb)
      replace HVA := Lib.hid (HVA.out.upW hb)
      replace HVB := Lib.hid (HVB.out.upW hb)
      replace HXE := Lib.hid (HXE.out.upW hb)
      replace HVF := Lib.hid (HVF.out.upW hb)
      clear hb
      go_wp2_with fail
      refine (HORI.out _ HXE.out HVF.out).mono ?_
      rintro e w19 ⟨rfl, hb⟩
      replace HB := Lib.hid (HB.out.trans (hb.mono HB.out.size))
      replace HX := Lib.hid (HX.out.upW hb)
      replace HY := Lib.hid (HY.out.upW hb)
      replace HXN := Lib.hid (HXN.out.upW hb)
      replace HYN := Lib.hid (HYN.out.upW hb)
      replace HXD := Lib.hid (HXD.out.upW hb)
      replace HVA := Lib.hid (HVA.out.upW hb)
      replace HVB := Lib.hid (HVB.out.upW hb)
      replace HXE := Lib.hid (HXE.out.upW hb)
      replace HVF := Lib.hid (HVF.out.upW hb)
      clear hb
      go_wp2_with fail
      refine (HORS.out _ HXE.out HVF.out).mono ?_
      rintro e w20 ⟨rfl, hb⟩
      replace HB := Lib.hid (HB.out.trans (hb.mono HB.out.size))
      replace HX := Lib.hid (HX.out.upW hb)
      replace HY := Lib.hid (HY.out.upW hb)
      replace HXN := Lib.hid (HXN.out.upW hb)
      replace HYN := Lib.hid (HYN.out.upW hb)
      replace HXD := Lib.hid (HXD.out.upW hb)
      replace HVA := Lib.hid (HVA.out.upW hb)
      replace HVB := Lib.hid (HVB.out.upW hb)
      replace HXE := Lib.hid (HXE.out.upW hb)
      replace HVF := Lib.hid (HVF.out.upW hb)
      clear hb
      go_wp2_with fail
      refine (HSI.out _ HY.out).mono ?_
      rintro e w21 ⟨rfl, hb⟩
      replace HB := Lib.hid (HB.out.trans (hb.mono HB.out.size))
      replace HX := Lib.hid (HX.out.upW hb)
      replace HY := Lib.hid (HY.out.upW hb)
      replace HXN := Lib.hid (HXN.out.upW hb)
      replace HYN := Lib.hid (HYN.out.upW hb)
      replace HXD := Lib.hid (HXD.out.upW hb)
      replace HVA := Lib.hid (HVA.out.upW hb)
      replace HVB := Lib.hid (HVB.out.upW hb)
      replace HXE := Lib.hid (HXE.out.upW hb)
      replace HVF := Lib.hid (HVF.out.upW hb)
      clear hb
      go_wp2_with fail
      refine (HSS.out _ HY.out).mono ?_
      rintro e w22 ⟨rfl, hb⟩
      replace HB := Lib.hid (HB.out.trans (hb.mono HB.out.size))
      replace HX := Lib.hid (HX.out.upW hb)
      replace HY := Lib.hid (HY.out.upW hb)
      replace HXN := Lib.hid (HXN.out.upW hb)
      replace HYN := Lib.hid (HYN.out.upW hb)
      replace HXD := Lib.hid (HXD.out.upW hb)
      replace HVA := Lib.hid (HVA.out.upW hb)
      replace HVB := Lib.hid (HVB.out.upW hb)
      replace HXE := Lib.hid (HXE.out.upW hb)
      replace HVF := Lib.hid (HVF.out.upW hb)
      clear hb
      go_wp2_with fail
      go_ret
      exact ⟨rfl, HB.out⟩
    case pos =>
      obtain ⟨ya, ycap, rfl⟩ := HY.out.slice
      obtain ⟨xa, xcap, rfl⟩ := HX.out.slice
      have hd15 : decide ((l.length : Int) < 15) = true := decide_eq_true (by omega)
      have hq15 : (l.length : Int) < 15 := by omega
      have H15 := Lib.hid h15; clear h15
      have hm4 : m.length ≤ 4 := HWW.out.2.1.2.2.2
      have HLC := Lib.hid (fun (wx : World) (v : Value) (q : List Int) (hq : q.length ≤ 1048576) (hx : MatB wx.heap.size wx (.slice xa m.length xcap) m) (hv : RowB wx.heap.size wx v q) => leni_any _ _ (.slice xa m.length xcap) v m q wx hx hv (Nat.le_refl _) (Nat.le_refl _) HA.out.fit hq)
      have HLF2 := Lib.hid (fun (i : Nat) (hi : i < m.length) => letter_facts HWW.out H15.out hi)
      generalize hln2 : lenI m l = nn at *
      have HNN := Lib.hid hln2; clear hln2
      generalize hmn : m.length = mn at *
      have HMN := Lib.hid hmn; clear hmn
      generalize hyl : l.length = yl at *
      have HYL := Lib.hid hyl; clear hyl
      have HLX := Lib.hid (show l.length ≤ 1048576 by rw [HYL.out]; exact HL1.out)
      refine (HRS.out _ HX.out HY.out).mono ?_
      rintro e w14 ⟨rfl, hb⟩
      replace HB := Lib.hid (HB.out.trans (hb.mono HB.out.size))
      replace HX := Lib.hid (HX.out.upW hb)
      replace HY := Lib.hid (HY.out.upW hb)
      replace HXN := Lib.hid (HXN.out.upW hb)
      replace HYN := Lib.hid (HYN.out.upW hb)
      clear hb
      go_wp2_with fail
      clear HRS hrb
      go_loopw [10] (fun i wr => ∃ (k : Nat) (wq : World), wq = wr ∧ k ≤ mn ∧ i = .int .i64 k ∧ MatB wq.heap.size wq (.slice xa mn xcap) m ∧ RowB wq.heap.size wq (.slice ya yl ycap) l ∧ RowB wq.heap.size wq yn (nrmL m l) ∧ Below w.heap.size w wq) (fun i _ => mn - (intOf i).toNat)
      case atStart => exact ⟨0, _, rfl, Nat.zero_le _, rfl, HX.out, HY.out, HYN.out, HB.out⟩
      case round =>
        obtain ⟨k, wq, rfl, hk, rfl, hx, hy, hyn, hb⟩ := hrel
        clear HB HX HY HYN HXN
        have HB := Lib.hid hb; have HX := Lib.hid hx; have HY := Lib.hid hy; have HYN := Lib.hid hyn
        clear hb hx hy hyn
        by_cases hlt : k < mn
        case pos =>
          have hd : decide (k < mn) = true := decide_eq_true hlt
          obtain ⟨kk, mm, nn2, bl, br, e1, e2, e3, e4, e5, e6, e7, e8, e9, e10⟩ := HLF2.out k hlt
          obtain rfl : nn = nn2 := e3
          have HBL := Lib.hid e5; have HBR := Lib.hid e6; have HKK := Lib.hid e1; have HMM := Lib.hid e2
          have hw1 : IntKind.i64.wrap (nn + 1) = nn + 1 := by rw [IntKind.wrap_i64]; omega
          have hw2 : IntKind.i64.wrap (nn - 1) = nn - 1 := by rw [IntKind.wrap_i64]; omega
          have hbl : (bl != bl) = false := by simp
          have hbr : (br != br) = false := by simp
          clear e1 e2 e5 e6 HLF2
          have hb1 : Below wq.heap.size wq (wq.alloc (.cells #[.int .i64 (k : Int)] 3)) := (Below.refl _ _).alloc (Nat.le_refl _) _
          have HC1 := Lib.hid (cats_any _ _ (.slice (some ⟨wq.heap.size, 0, none⟩) 1 1) (.slice ya yl ycap) [(k : Int)] l (wq.alloc (.cells #[.int .i64 (k : Int)] 3)) (lit_one wq k) (HY.out.upW hb1) (Nat.le_refl _) (Nat.le_refl _) (by simp) HLX.out)
          have HX1 := Lib.hid (HX.out.upW hb1); have HY1 := Lib.hid (HY.out.upW hb1); have HYN1 := Lib.hid (HYN.out.upW hb1)
          have HB1 := Lib.hid (HB.out.trans (hb1.mono HB.out.size))
          clear HB HX HY HYN hb1
          go_wp2_with fail
          refine HC1.out.mono ?_
          rintro e wa ⟨c1, rfl, h1, hb⟩
          have HB := Lib.hid (HB1.out.trans (hb.mono HB1.out.size))
          have HX := Lib.hid (HX1.out.upW hb); have HY := Lib.hid (HY1.out.upW hb); have HYN := Lib.hid (HYN1.out.upW hb)
          have HLK := Lib.hid (HLC.out wa c1 ([(k : Int)] ++ l) (by simp; have := HYL.out; have := H15.out; omega) HX.out h1.1.rowB)
          rw [show [(k : Int)] ++ l = (k : Int) :: l from rfl, HKK.out] at HLK
          clear h1 hb HC1 HB1 HX1 HY1 HYN1
          go_wp2_with fail
          refine (HLK.out).mono ?_
          rintro e w15 ⟨rfl, hb⟩
          replace HB := Lib.hid (HB.out.trans (hb.mono HB.out.size))
          replace HX := Lib.hid (HX.out.upW hb)
          replace HY := Lib.hid (HY.out.upW hb)
          replace HYN := Lib.hid (HYN.out.upW hb)
          clear hb
          have hb1 : Below w15.heap.size w15 (w15.alloc (.cells #[.int .i64 (k : Int)] 3)) := (Below.refl _ _).alloc (Nat.le_refl _) _
          have HC2 := Lib.hid (cats_any _ _ (.slice ya yl ycap) (.slice (some ⟨w15.heap.size, 0, none⟩) 1 1) l [(k : Int)] (w15.alloc (.cells #[.int .i64 (k : Int)] 3)) (HY.out.upW hb1) (lit_one w15 k) (Nat.le_refl _) (Nat.le_refl _) HLX.out (by simp))
          have HX1 := Lib.hid (HX.out.upW hb1); have HY1 := Lib.hid (HY.out.upW hb1); have HYN1 := Lib.hid (HYN.out.upW hb1)
          have HB1 := Lib.hid (HB.out.trans (hb1.mono HB.out.size))
          clear HB HX HY HYN hb1 HLK
          go_wp2_with fail
          refine HC2.out.mono ?_
          rintro e wb ⟨c2, rfl, h1, hb⟩
          have HB := Lib.hid (HB1.out.trans (hb.mono HB1.out.size))
          have HX := Lib.hid (HX1.out.upW hb); have HY := Lib.hid (HY1.out.upW hb); have HYN := Lib.hid (HYN1.out.upW hb)
          have HLK := Lib.hid (HLC.out wb c2 (l ++ [(k : Int)]) (by simp; have := HYL.out; have := H15.out; omega) HX.out h1.1.rowB)
          rw [HMM.out] at HLK
          clear h1 hb HC2 HB1 HX1 HY1 HYN1
          go_wp2_with fail
          refine (HLK.out).mono ?_
          rintro e w16 ⟨rfl, hb⟩
          replace HB := Lib.hid (HB.out.trans (hb.mono HB.out.size))
          replace HX := Lib.hid (HX.out.upW hb)
          replace HY := Lib.hid (HY.out.upW hb)
          replace HYN := Lib.hid (HYN.out.upW hb)
          clear hb
          clear HLK
          have hcase : ((kk != nn + 1) = false ∧ True) ∨ ((kk != nn + 1) = true ∧ (kk != nn - 1) = false) := by
            rcases e4 with e | e
            · exact Or.inl ⟨by rw [bne_eq_false_iff_eq]; exact e, trivial⟩
            · exact Or.inr ⟨by rw [bne_iff_ne]; omega, by rw [bne_eq_false_iff_eq]; exact e⟩
          clear e4
          rcases hcase with ⟨q1, _⟩ | ⟨q1, q2⟩
          all_goals
            go_wp2_with fail
            refine (HDS.out _ HX.out HY.out).mono ?_
            rintro e w17 ⟨d1, rfl, h1, hb⟩
            replace HB := Lib.hid (HB.out.trans (hb.mono HB.out.size))
            replace HX := Lib.hid (HX.out.upW hb)
            replace HY := Lib.hid (HY.out.upW hb)
            replace HYN := Lib.hid (HYN.out.upW hb)
            have HD1 := Lib.hid (h1.1.rowB)
            clear hb
            go_wp2_with fail
            clear h1
            refine (has_w _ (ldsL m l) (k : Int) bl HBL.out _ HD1.out HDM.out).mono ?_
            rintro e w18 ⟨rfl, hb⟩
            replace HB := Lib.hid (HB.out.trans (hb.mono HB.out.size))
            replace HX := Lib.hid (HX.out.upW hb)
            replace HY := Lib.hid (HY.out.upW hb)
            replace HYN := Lib.hid (HYN.out.upW hb)
            replace HD1 := Lib.hid (HD1.out.upW hb)
            clear HD1
            clear hb
            go_wp2_with fail
            refine (HES.out _ HX.out HY.out).mono ?_
            rintro e w19 ⟨d1, rfl, h1, hb⟩
            replace HB := Lib.hid (HB.out.trans (hb.mono HB.out.size))
            replace HX := Lib.hid (HX.out.upW hb)
            replace HY := Lib.hid (HY.out.upW hb)
            replace HYN := Lib.hid (HYN.out.upW hb)
            have HD1 := Lib.hid (h1.1.rowB)
            clear hb
            go_wp2_with fail
            clear h1
            refine (has_w _ (ldsL m l.reverse) (k : Int) br HBR.out _ HD1.out HEM.out).mono ?_
            rintro e w20 ⟨rfl, hb⟩
            replace HB := Lib.hid (HB.out.trans (hb.mono HB.out.size))
            replace HX := Lib.hid (HX.out.upW hb)
            replace HY := Lib.hid (HY.out.upW hb)
            replace HYN := Lib.hid (HYN.out.upW hb)
            replace HD1 := Lib.hid (HD1.out.upW hb)
            clear HD1
            clear hb
            go_wp2_with fail
            exact ⟨⟨k + 1, _, rfl, by omega, by go_num, HX.out, HY.out, HYN.out, HB.out⟩, by simp [intOf]; omega⟩
        case neg =>
          obtain rfl : k = mn := by omega
          have hd : decide (k < k) = false := by simp
          have HSAM := Lib.hid (fun (wx : World) (hx : MatB wx.heap.size wx (.slice xa k xcap) m) (hy : RowB wx.heap.size wx (.slice ya yl ycap) l) (hz : RowB wx.heap.size wx yn (nrmL m l)) => sami_any _ _ _ (.slice xa k xcap) (.slice ya yl ycap) yn m l (nrmL m l) wx hx hy hz (Nat.le_refl _) (Nat.le_refl _) (Nat.le_refl _) HA.out.fit HLX.out HN1.out)
          rw [sam_nrm HWW.out] at HSAM
          have HRED := Lib.hid (fun (wx : World) (hx : MatB wx.heap.size wx (.slice xa k xcap) m) (hz : RowB wx.heap.size wx yn (nrmL m l)) => isrdi_any _ _ (.slice xa k xcap) yn m (nrmL m l) wx hx hz (Nat.le_refl _) (Nat.le_refl _) HA.out.fit HN1.out)
          rw [red_nrm HWW.out] at HRED
          have HSG2 := Lib.hid (fun (wx : World) (hz : RowB wx.heap.size wx yn (nrmL m l)) => sig8i_any _ yn (nrmL m l) wx hz HN1.out)
          rw [sgn_nrm HWW.out] at HSG2
          have HRD := Lib.hid (fun (wx : World) (hx : MatB wx.heap.size wx (.slice xa k xcap) m) (hy : RowB wx.heap.size wx (.slice ya yl ycap) l) => rdws_any _ _ (.slice xa k xcap) (.slice ya yl ycap) m l wx hx hy (Nat.le_refl _) (Nat.le_refl _) HA.out.fit HLX.out)
          have HRF := Lib.hid (fun (Q : List (List Int)) (hQ : QuI m (nrmL m l) Q Q.length) => rdw_first HWW.out hQ)
          rw [HYL.out] at HSG2
          have hsg0 : (sgn8 yl != sgn8 yl) = false := by simp
          clear HLF2 HLC HLI HDS HES
          go_wp2_with fail
          refine (HSAM.out _ HX.out HY.out HYN.out).mono ?_
          rintro e w17 ⟨rfl, hb⟩
          replace HB := Lib.hid (HB.out.trans (hb.mono HB.out.size))
          replace HX := Lib.hid (HX.out.upW hb)
          replace HY := Lib.hid (HY.out.upW hb)
          replace HYN := Lib.hid (HYN.out.upW hb)
          clear hb
          go_wp2_with fail
          refine (HRED.out _ HX.out HYN.out).mono ?_
          rintro e w18 ⟨rfl, hb⟩
          replace HB := Lib.hid (HB.out.trans (hb.mono HB.out.size))
          replace HX := Lib.hid (HX.out.upW hb)
          replace HY := Lib.hid (HY.out.upW hb)
          replace HYN := Lib.hid (HYN.out.upW hb)
          clear hb
          go_wp2_with fail
          refine (HSI.out _ HY.out).mono ?_
          rintro e w19 ⟨rfl, hb⟩
          replace HB := Lib.hid (HB.out.trans (hb.mono HB.out.size))
          replace HX := Lib.hid (HX.out.upW hb)
          replace HY := Lib.hid (HY.out.upW hb)
          replace HYN := Lib.hid (HYN.out.upW hb)
          clear hb
          go_wp2_with fail
          refine (HSG2.out _ HYN.out).mono ?_
          rintro e w20 ⟨rfl, hb⟩
          replace HB := Lib.hid (HB.out.trans (hb.mono HB.out.size))
          replace HX := Lib.hid (HX.out.upW hb)
          replace HY := Lib.hid (HY.out.upW hb)
          replace HYN := Lib.hid (HYN.out.upW hb)
          clear hb
          go_wp2_with fail
          clear HSAM HRED HSG2
          refine (HRD.out _ HX.out HY.out).mono ?_
          rintro e w21 ⟨rv, kn, RL, rfl, hml, hb, hk1, _, _⟩
          replace HB := Lib.hid (HB.out.trans (hb.mono HB.out.size))
          replace HX := Lib.hid (HX.out.upW hb)
          replace HY := Lib.hid (HY.out.upW hb)
          replace HYN := Lib.hid (HYN.out.upW hb)
          clear hb HRD
          cases kn
          case false =>
            clear hk1 hml HRF hsg0
            go_wp2_with fail
            refine (drawSm_any w.heap.size _ _ len hl (HC.out.below HB.out) HB.out.size).mono ?_
            rintro e w22 ⟨xd, va, vb, md, la, lb, rfl, hb, h1, h2, h3, h4, h5, h6⟩
            replace HB := Lib.hid (HB.out.trans (hb.mono HB.out.size))
            replace HX := Lib.hid (HX.out.upW hb)
            replace HY := Lib.hid (HY.out.upW hb)
            replace HYN := Lib.hid (HYN.out.upW hb)
            have HXD := Lib.hid (h1.mat)
            have HVA := Lib.hid (h3.1.rowB)
            have HVB := Lib.hid (h5.1.rowB)
            clear hb
            go_wp2_with fail
            have HDA := Lib.hid h2; have HLA := Lib.hid h4; have HLB := Lib.hid h6
            clear h1 h2 h3 h4 h5 h6
            refine (drawOe_any w.heap.size _ _ len hl (HC.out.below HB.out) HB.out.size).mono ?_
            rintro e w23 ⟨xe, vf, me, lf, rfl, hb, h1, h2, h3, h4⟩
            replace HB := Lib.hid (HB.out.trans (hb.mono HB.out.size))
            replace HX := Lib.hid (HX.out.upW hb)
            replace HY := Lib.hid (HY.out.upW hb)
            replace HYN := Lib.hid (HYN.out.upW hb)
            replace HXD := Lib.hid (HXD.out.upW hb)
            replace HVA := Lib.hid (HVA.out.upW hb)
            replace HVB := Lib.hid (HVB.out.upW hb)
            have HXE := Lib.hid (h1.mat)
            have HVF := Lib.hid (h3.1.rowB)
            clear hb
            go_wp2_with fail
            have HEA := Lib.hid h2; have HLF := Lib.hid h4
            clear h1 h2 h3 h4
            have HSMI := Lib.hid (fun (wx : World) (hx : MatB wx.heap.size wx xd md) (h1 : RowB wx.heap.size wx va la) (h2 : RowB wx.heap.size wx vb lb) => sami_any _ _ _ xd va vb md la lb wx hx h1 h2 (Nat.le_refl _) (Nat.le_refl _) (Nat.le_refl _) HDA.out.fit (by have := HLA.out; omega) (by have := HLB.out; omega))
            have HSMS := Lib.hid (fun (wx : World) (hx : MatB wx.heap.size wx xd md) (h1 : RowB wx.heap.size wx va la) (h2 : RowB wx.heap.size wx vb lb) => sams_any _ _ _ xd va vb md la lb wx hx h1 h2 (Nat.le_refl _) (Nat.le_refl _) (Nat.le_refl _) HDA.out.fit (by have := HLA.out; omega) (by have := HLB.out; omega))
            have HORI := Lib.hid (fun (wx : World) (hx : MatB wx.heap.size wx xe me) (h1 : RowB wx.heap.size wx vf lf) => ordi_any _ _ xe vf me lf wx hx h1 (Nat.le_refl _) (Nat.le_refl _) HEA.out.fit (by have := HLF.out; omega))
            have HORS := Lib.hid (fun (wx : World) (hx : MatB wx.heap.size wx xe me) (h1 : RowB wx.heap.size wx vf lf) => ords_any _ _ xe vf me lf wx hx h1 (Nat.le_refl _) (Nat.le_refl _) HEA.out.fit (by have := HLF.out; omega))
            generalize samB md la lb = sb at *
            generalize ordI me lf = ov at *
            generalize sgn8 yl = sg at *
            have hsb : (sb == sb) = true := by simp
            have hov : (ov == ov) = true := by simp
            have hsg : (sg == sg) = true := by simp
            refine (HSMI.out _ HXD.out HVA.out HVB.out).mono ?_
            rintro e w24 ⟨rfl, hb⟩
            replace HB := Lib.hid (HB.out.trans (hb.mono HB.out.size))
            replace HX := Lib.hid (HX.out.upW hb)
            replace HY := Lib.hid (HY.out.upW hb)
            replace HYN := Lib.hid (HYN.out.upW hb)
            replace HXD := Lib.hid (HXD.out.upW hb)
            replace HVA := Lib.hid (HVA.out.upW hb)
            replace HVB := Lib.hid (HVB.out.upW hb)
            replace HXE := Lib.hid (HXE.out.upW hb)
            replace HVF := Lib.hid (HVF.out.upW hb)
            clear hb
            go_wp2_with fail
            refine (HSMS.out _ HXD.out HVA.out HVB.out).mono ?_
            rintro e w25 ⟨rfl, hb⟩
            replace HB := Lib.hid (HB.out.trans (hb.mono HB.out.size))
            replace HX := Lib.hid (HX.out.upW hb)
            replace HY := Lib.hid (HY.out.upW hb)
            replace HYN := Lib.hid (HYN.out.upW hb)
            replace HXD := Lib.hid (HXD.out.upW hb)
            replace HVA := Lib.hid (HVA.out.upW hb)
            replace HVB := Lib.hid (HVB.out.upW hb)
            replace HXE := Lib.hid (HXE.out.upW hb)
            replace HVF := Lib.hid (HVF.out.upW hb)
            clear hb
            go_wp2_with fail
            refine (HORI.out _ HXE.out HVF.out).mono ?_
            rintro e w26 ⟨rfl, hb⟩
            replace HB := Lib.hid (HB.out.trans (hb.mono HB.out.size))
            replace HX := Lib.hid (HX.out.upW hb)
            replace HY := Lib.hid (HY.out.upW hb)
            replace HYN := Lib.hid (HYN.out.upW hb)
            replace HXD := Lib.hid (HXD.out.upW hb)
            replace HVA := Lib.hid (HVA.out.upW hb)
            replace HVB := Lib.hid (HVB.out.upW hb)
            replace HXE := Lib.hid (HXE.out.upW hb)
            replace HVF := Lib.hid (HVF.out.upW hb)
            clear hb
            go_wp2_with fail
            refine (HORS.out _ HXE.out HVF.out).mono ?_
            rintro e w27 ⟨rfl, hb⟩
            replace HB := Lib.hid (HB.out.trans (hb.mono HB.out.size))
            replace HX := Lib.hid (HX.out.upW hb)
            replace HY := Lib.hid (HY.out.upW hb)
            replace HYN := Lib.hid (HYN.out.upW hb)
            replace HXD := Lib.hid (HXD.out.upW hb)
            replace HVA := Lib.hid (HVA.out.upW hb)
            replace HVB := Lib.hid (HVB.out.upW hb)
            replace HXE := Lib.hid (HXE.out.upW hb)
            replace HVF := Lib.hid (HVF.out.upW hb)
            clear hb
            go_wp2_with fail
            refine (HSI.out _ HY.out).mono ?_
            rintro e w28 ⟨rfl, hb⟩
            replace HB := Lib.hid (HB.out.trans (hb.mono HB.out.size))
            replace HX := Lib.hid (HX.out.upW hb)
            replace HY := Lib.hid (HY.out.upW hb)
            replace HYN := Lib.hid (HYN.out.upW hb)
            replace HXD := Lib.hid (HXD.out.upW hb)
            replace HVA := Lib.hid (HVA.out.upW hb)
            replace HVB := Lib.hid (HVB.out.upW hb)
            replace HXE := Lib.hid (HXE.out.upW hb)
            replace HVF := Lib.hid (HVF.out.upW hb)
            clear hb
            go_wp2_with fail
            refine (HSS.out _ HY.out).mono ?_
            rintro e w29 ⟨rfl, hb⟩
            replace HB := Lib.hid (HB.out.trans (hb.mono HB.out.size))
            replace HX := Lib.hid (HX.out.upW hb)
            replace HY := Lib.hid (HY.out.upW hb)
            replace HYN := Lib.hid (HYN.out.upW hb)
            replace HXD := Lib.hid (HXD.out.upW hb)
            replace HVA := Lib.hid (HVA.out.upW hb)
            replace HVB := Lib.hid (HVB.out.upW hb)
            replace HXE := Lib.hid (HXE.out.upW hb)
            replace HVF := Lib.hid (HVF.out.upW hb)
            clear hb
            go_wp2_with fail
            go_ret
            exact ⟨rfl, HB.out⟩
          case true =>
            obtain ⟨Q, hQ1, hQ2⟩ := hk1 rfl
            obtain ⟨Lr, hLr⟩ := HRF.out Q hQ1
            rw [hLr] at hQ2
            subst hQ2
            clear hQ1 HRF hk1 hLr
            generalize nrmL m l = nl at *
            obtain ⟨ra0, rc0, rfl⟩ := hml.slice
            obtain ⟨g, ra, rcap, _, rfl, hg, hc0, hrow0⟩ := hml.rowA (show 0 < (nl :: Lr).length by simp)
            have hgd : (nl :: Lr).getD 0 [] = nl := rfl
            rw [hgd] at hc0 hrow0
            have HR0 := Lib.hid hrow0.rowB
            have h0L : 0 < (nl :: Lr).length := by simp
            generalize (nl :: Lr).length = rn at *
            have h0I : (0 : Int) < (rn : Int) := by omega
            clear hml hrow0 hgd hsg0
            generalize hnl : nl.length = nll at *
            have HNLL := Lib.hid hnl; clear hnl
            go_wp2_with fail
            refine (smS_w _ _ nl _ HR0.out HYN.out (show nl.length ≤ maxLen by rw [HNLL.out]; exact HNM.out)).mono ?_
            rintro e w22 ⟨rfl, hb⟩
            replace HB := Lib.hid (HB.out.trans (hb.mono HB.out.size))
            replace HX := Lib.hid (HX.out.upW hb)
            replace HY := Lib.hid (HY.out.upW hb)
            replace HYN := Lib.hid (HYN.out.upW hb)
            replace HR0 := Lib.hid (HR0.out.upW hb)
            clear HR0
            clear hb
            go_wp2_with fail
            clear hc0 hg h0L h0I
            refine (drawSm_any w.heap.size _ _ len hl (HC.out.below HB.out) HB.out.size).mono ?_
            rintro e w23 ⟨xd, va, vb, md, la, lb, rfl, hb, h1, h2, h3, h4, h5, h6⟩
            replace HB := Lib.hid (HB.out.trans (hb.mono HB.out.size))
            replace HX := Lib.hid (HX.out.upW hb)
            replace HY := Lib.hid (HY.out.upW hb)
            replace HYN := Lib.hid (HYN.out.upW hb)
            have HXD := Lib.hid (h1.mat)
            have HVA := Lib.hid (h3.1.rowB)
            have HVB := Lib.hid (h5.1.rowB)
            clear hb
            go_wp2_with fail
            have HDA := Lib.hid h2; have HLA := Lib.hid h4; have HLB := Lib.hid h6
            clear h1 h2 h3 h4 h5 h6
            refine (drawOe_any w.heap.size _ _ len hl (HC.out.below HB.out) HB.out.size).mono ?_
            rintro e w24 ⟨xe, vf, me, lf, rfl, hb, h1, h2, h3, h4⟩
            replace HB := Lib.hid (HB.out.trans (hb.mono HB.out.size))
            replace HX := Lib.hid (HX.out.upW hb)
            replace HY := Lib.hid (HY.out.upW hb)
            replace HYN := Lib.hid (HYN.out.upW hb)
            replace HXD := Lib.hid (HXD.out.upW hb)
            replace HVA := Lib.hid (HVA.out.upW hb)
            replace HVB := Lib.hid (HVB.out.upW hb)
            have HXE := Lib.hid (h1.mat)
            have HVF := Lib.hid (h3.1.rowB)
            clear hb
            go_wp2_with fail
            have HEA := Lib.hid h2; have HLF := Lib.hid h4
            clear h1 h2 h3 h4
            have HSMI := Lib.hid (fun (wx : World) (hx : MatB wx.heap.size wx xd md) (h1 : RowB wx.heap.size wx va la) (h2 : RowB wx.heap.size wx vb lb) => sami_any _ _ _ xd va vb md la lb wx hx h1 h2 (Nat.le_refl _) (Nat.le_refl _) (Nat.le_refl _) HDA.out.fit (by have := HLA.out; omega) (by have := HLB.out; omega))
            have HSMS := Lib.hid (fun (wx : World) (hx : MatB wx.heap.size wx xd md) (h1 : RowB wx.heap.size wx va la) (h2 : RowB wx.heap.size wx vb lb) => sams_any _ _ _ xd va vb md la lb wx hx h1 h2 (Nat.le_refl _) (Nat.le_refl _) (Nat.le_refl _) HDA.out.fit (by have := HLA.out; omega) (by have := HLB.out; omega))
            have HORI := Lib.hid (fun (wx : World) (hx : MatB wx.heap.size wx xe me) (h1 : RowB wx.heap.size wx vf lf) => ordi_any _ _ xe vf me lf wx hx h1 (Nat.le_refl _) (Nat.le_refl _) HEA.out.fit (by have := HLF.out; omega))
            have HORS := Lib.hid (fun (wx : World) (hx : MatB wx.heap.size wx xe me) (h1 : RowB wx.heap.size wx vf lf) => ords_any _ _ xe vf me lf wx hx h1 (Nat.le_refl _) (Nat.le_refl _) HEA.out.fit (by have := HLF.out; omega))
            generalize samB md la lb = sb at *
            generalize ordI me lf = ov at *
            generalize sgn8 yl = sg at *
            have hsb : (sb == sb) = true := by simp
            have hov : (ov == ov) = true := by simp
            have hsg : (sg == sg) = true := by simp
            refine (HSMI.out _ HXD.out HVA.out HVB.out).mono ?_
            rintro e w25 ⟨rfl, hb⟩
            replace HB := Lib.hid (HB.out.trans (hb.mono HB.out.size))
            replace HX := Lib.hid (HX.out.upW hb)
            replace HY := Lib.hid (HY.out.upW hb)
            replace HYN := Lib.hid (HYN.out.upW hb)
            replace HXD := Lib.hid (HXD.out.upW hb)
            replace HVA := Lib.hid (HVA.out.upW hb)
            replace HVB := Lib.hid (HVB.out.upW hb)
            replace HXE := Lib.hid (HXE.out.upW hb)
            replace HVF := Lib.hid (HVF.out.upW hb)
            clear hb
            go_wp2_with fail
            refine (HSMS.out _ HXD.out HVA.out HVB.out).mono ?_
            rintro e w26 ⟨rfl, hb⟩
            replace HB := Lib.hid (HB.out.trans (hb.mono HB.out.size))
            replace HX := Lib.hid (HX.out.upW hb)
            replace HY := Lib.hid (HY.out.upW hb)
            replace HYN := Lib.hid (HYN.out.upW hb)
            replace HXD := Lib.hid (HXD.out.upW hb)
            replace HVA := Lib.hid (HVA.out.upW hb)
            replace HVB := Lib.hid (HVB.out.upW hb)
            replace HXE := Lib.hid (HXE.out.upW hb)
            replace HVF := Lib.hid (HVF.out.upW hb)
            clear hb
            go_wp2_with fail
            refine (HORI.out _ HXE.out HVF.out).mono ?_
            rintro e w27 ⟨rfl, hb⟩
            replace HB := Lib.hid (HB.out.trans (hb.mono HB.out.size))
            replace HX := Lib.hid (HX.out.upW hb)
            replace HY := Lib.hid (HY.out.upW hb)
            replace HYN := Lib.hid (HYN.out.upW hb)
            replace HXD := Lib.hid (HXD.out.upW hb)
            replace HVA := Lib.hid (HVA.out.upW hb)
            replace HVB := Lib.hid (HVB.out.upW hb)
            replace HXE := Lib.hid (HXE.out.upW hb)
            replace HVF := Lib.hid (HVF.out.upW hb)
            clear hb
            go_wp2_with fail
            refine (HORS.out _ HXE.out HVF.out).mono ?_
            rintro e w28 ⟨rfl, hb⟩
            replace HB := Lib.hid (HB.out.trans (hb.mono HB.out.size))
            replace HX := Lib.hid (HX.out.upW hb)
            replace HY := Lib.hid (HY.out.upW hb)
            replace HYN := Lib.hid (HYN.out.upW hb)
            replace HXD := Lib.hid (HXD.out.upW hb)
            replace HVA := Lib.hid (HVA.out.upW hb)
            replace HVB := Lib.hid (HVB.out.upW hb)
            replace HXE := Lib.hid (HXE.out.upW hb)
            replace HVF := Lib.hid (HVF.out.upW hb)
            clear hb
            go_wp2_with fail
            refine (HSI.out _ HY.out).mono ?_
            rintro e w29 ⟨rfl, hb⟩
            replace HB := Lib.hid (HB.out.trans (hb.mono HB.out.size))
            replace HX := Lib.hid (HX.out.upW hb)
            replace HY := Lib.hid (HY.out.upW hb)
            replace HYN := Lib.hid (HYN.out.upW hb)
            replace HXD := Lib.hid (HXD.out.upW hb)
            replace HVA := Lib.hid (HVA.out.upW hb)
            replace HVB := Lib.hid (HVB.out.upW hb)
            replace HXE := Lib.hid (HXE.out.upW hb)
            replace HVF := Lib.hid (HVF.out.upW hb)
            clear hb
            go_wp2_with fail
            refine (HSS.out _ HY.out).mono ?_
            rintro e w30 ⟨rfl, hb⟩
            replace HB := Lib.hid (HB.out.trans (hb.mono HB.out.size))
            replace HX := Lib.hid (HX.out.upW hb)
            replace HY := Lib.hid (HY.out.upW hb)
            replace HYN := Lib.hid (HYN.out.upW hb)
            replace HXD := Lib.hid (HXD.out.upW hb)
            replace HVA := Lib.hid (HVA.out.upW hb)
            replace HVB := Lib.hid (HVB.out.upW hb)
            replace HXE := Lib.hid (HXE.out.upW hb)
            replace HVF := Lib.hid (HVF.out.upW hb)
            clear hb
            go_wp2_with fail
            go_ret
            exact ⟨rfl, HB.out⟩
end Go.Proofs.Ytnlbmnielemgiaa
