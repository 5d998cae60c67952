/-
  Proved here: for every byte slice, the law FnElements answers true: elements form a group (printed by el.py).
-/
import Derived.Deep.DeepCutAuto
import Derived.Test.YtnlbmnielemgiaaGreatEz45
namespace Go.Proofs.YtnlbmnielemgiaaGreat
open Go.ChangeShapes Go.WideShapes Go.ChangeAt Go.ChangeMaps Go.RowKit

set_option maxHeartbeats 16000000 in
set_option maxRecDepth 100000 in
theorem el_law (a : Option Addr) (len cap : Nat) (w : World) (hl : len ≤ 1048576) (hcode : CodeB w.heap.size w (.slice a len cap) len) :
    Calls Tryz.prog 3 #[.slice a len cap] w fun e w' => e = .returned (.bool true) ∧ Below w.heap.size w w' := by
  have HC := Lib.hid hcode; clear hcode
  have hbig : decide (1048576 < (len : Int)) = false := by rw [decide_eq_false_iff_not]; omega
  go_enter Tryz.func3, Tryz.ntmps3
  go_wp2_with fail
  refine (bigE_w _ a len cap (by omega)).mono ?_
  rintro e w0 ⟨rfl, rfl⟩
  go_wp2_with fail
  refine (drawMe_any w.heap.size _ _ len hl HC.out (Nat.le_refl _)).mono ?_
  rintro e w1 ⟨x, va, vb, m, la, lb, rfl, hb, h1, h2, h3, h4, h5, h6⟩
  obtain ⟨xa, xcap, rfl⟩ := h1.mat.slice
  obtain ⟨aa, acap, rfl⟩ := h3.1.rowB.slice
  obtain ⟨ba, bcap, rfl⟩ := h5.1.rowB.slice
  have HA := Lib.hid h2; have HLA := Lib.hid h4; have HLB := Lib.hid h6
  have HX := Lib.hid h1.mat; have HVA := Lib.hid h3.1.rowB; have HVB := Lib.hid h5.1.rowB; have HB := Lib.hid hb
  clear h1 h2 h3 h4 h5 h6 hb
  have HMI := Lib.hid (fun (u z : Value) (p q : List Int) (hp : p.length ≤ 1048576) (hq : q.length ≤ 1048576) (wx : World) (hx : MatB wx.heap.size wx (.slice xa m.length xcap) m) (hy : RowB wx.heap.size wx u p) (hz : RowB wx.heap.size wx z q) => muli_e (.slice xa m.length xcap) u z m p q wx hx hy hz HA.out.fit hp hq)
  have HM1 := HMI.out (.slice aa la.length acap) (.slice ba lb.length bcap) la lb (by have := HLA.out; omega) (by have := HLB.out; omega)
  have HM2 := fun (wx : World) (hx : MatB wx.heap.size wx (.slice xa m.length xcap) m) (hy : RowB wx.heap.size wx (.slice aa la.length acap) la) (hz : RowB wx.heap.size wx (.slice ba lb.length bcap) lb) => muls_e (.slice xa m.length xcap) (.slice aa la.length acap) (.slice ba lb.length bcap) m la lb wx hx hy hz HA.out.fit (by have := HLA.out; omega) (by have := HLB.out; omega)
  have HC1 := Lib.hid (fun (wx : World) (hx : MatB wx.heap.size wx (.slice xa m.length xcap) m) (hy : RowB wx.heap.size wx (.slice aa la.length acap) la) (hz : RowB wx.heap.size wx (.slice ba lb.length bcap) lb) => comi_e (.slice xa m.length xcap) (.slice aa la.length acap) (.slice ba lb.length bcap) m la lb wx hx hy hz HA.out.fit (by have := HLA.out; omega) (by have := HLB.out; omega))
  have HC2 := Lib.hid (fun (wx : World) (hx : MatB wx.heap.size wx (.slice xa m.length xcap) m) (hy : RowB wx.heap.size wx (.slice aa la.length acap) la) (hz : RowB wx.heap.size wx (.slice ba lb.length bcap) lb) => coms_e (.slice xa m.length xcap) (.slice aa la.length acap) (.slice ba lb.length bcap) m la lb wx hx hy hz HA.out.fit (by have := HLA.out; omega) (by have := HLB.out; omega))
  have HW1 := Lib.hid (fun (wx : World) (hx : MatB wx.heap.size wx (.slice xa m.length xcap) m) (hy : RowB wx.heap.size wx (.slice aa la.length acap) la) => isws_e (.slice xa m.length xcap) (.slice aa la.length acap) m la wx hx hy HA.out.fit (by have := HLA.out; omega))
  have HW2 := Lib.hid (fun (wx : World) (hx : MatB wx.heap.size wx (.slice xa m.length xcap) m) (hy : RowB wx.heap.size wx (.slice ba lb.length bcap) lb) => isws_e (.slice xa m.length xcap) (.slice ba lb.length bcap) m lb wx hx hy HA.out.fit (by have := HLB.out; omega))
  have HYL := Lib.hid (mulL_len m la lb)
  have HELM := Lib.hid (fun (h : mulB m la lb = true) (u : Value) (wx : World) (hx : MatB wx.heap.size wx (.slice xa m.length xcap) m) (hy : RowB wx.heap.size wx u (mulL m la lb)) => show Calls Tryz.prog 9 #[.slice xa m.length xcap, u] wx fun e w' => e = .returned (.bool true) ∧ Below wx.heap.size wx w' from by
    have := elmi_e (.slice xa m.length xcap) u m (mulL m la lb) wx hx hy HA.out.fit (by have := mulL_len m la lb; omega)
    rwa [mul_elem h] at this)
  have HBOTH := Lib.hid (fun (h : (wordB m la && wordB m lb) = true) => show IsW m la ∧ IsW m lb from by
    rw [Bool.and_eq_true] at h; exact ⟨wordB_is' h.1, wordB_is' h.2⟩)
  have HASS := Lib.hid (fun (d : List Int) (h1 : mulB m la lb = true) (h2 : mulB m lb d = true) (h3 : mulB m (mulL m la lb) d = true) (h4 : mulB m la (mulL m lb d) = true) => mul_assoc h1 h2 h3 h4)
  have HCS := Lib.hid (fun (h : mulB m la lb = true) (h15 : la.length + lb.length ≤ 15) => com_sam h h15)
  have HSAM := Lib.hid (fun (u z : Value) (wx : World) (hx : MatB wx.heap.size wx (.slice xa m.length xcap) m) (hy : RowB wx.heap.size wx u (mulL m la lb)) (hz : RowB wx.heap.size wx z (lb ++ la)) => sami_any _ _ _ (.slice xa m.length xcap) u z m (mulL m la lb) (lb ++ la) wx hx hy hz (Nat.le_refl _) (Nat.le_refl _) (Nat.le_refl _) HA.out.fit (by have := mulL_len m la lb; omega) (by rw [List.length_append]; have := HLA.out; have := HLB.out; omega))
  have HCAT := Lib.hid (fun (wx : World) (hy : RowB wx.heap.size wx (.slice aa la.length acap) la) (hz : RowB wx.heap.size wx (.slice ba lb.length bcap) lb) => cats_any _ _ (.slice ba lb.length bcap) (.slice aa la.length acap) lb la wx hz hy (Nat.le_refl _) (Nat.le_refl _) (by have := HLB.out; omega) (by have := HLA.out; omega))
  generalize mulB m la lb = D at *
  generalize mulL m la lb = Y at *
  have HYM := Lib.hid (show Y.length ≤ maxLen by have := HYL.out; unfold maxLen; omega)
  go_wp2_with fail
  refine (HM1 w1 HX.out HVA.out HVB.out).mono ?_
  rintro e w2 ⟨xr, rfl, h1, hb⟩
  replace HX := Lib.hid (HX.out.upE hb); replace HVA := Lib.hid (HVA.out.upE hb); replace HVB := Lib.hid (HVB.out.upE hb)
  replace HB := Lib.hid (HB.out.trans (hb.mono HB.out.size))
  have HXR := Lib.hid h1.1.rowB
  clear h1 hb HM1
  go_wp2_with fail
  refine (HM2 w2 HX.out HVA.out HVB.out).mono ?_
  rintro e w3 ⟨y, rfl, h1, hb⟩
  have HE := Lib.hid (show El4 w w3 (.slice xa m.length xcap) (.slice aa la.length acap) (.slice ba lb.length bcap) y m la lb Y from ⟨HX.out.upE hb, HVA.out.upE hb, HVB.out.upE hb, h1.1.rowB, HB.out.trans (hb.mono HB.out.size)⟩)
  replace HXR := Lib.hid (HXR.out.upE hb)
  clear h1 hb HM2 HX HVA HVB HB
  go_upto_region 6 with fail
  go_cut [84] from 45 to 84 (fun s84 wx => s84 = .bool false ∧ El4 w wx (.slice xa m.length xcap) (.slice aa la.length acap) (.slice ba lb.length bcap) y m la lb Y)
  case first =>
    cases D
    case false =>
      go_wp2_with fail
      refine (smE_w _ _ Y _ HXR.out HE.out.ry HYM.out).mono ?_
      rintro e w4 ⟨rfl, hb⟩
      replace HE := Lib.hid (HE.out.up hb)
      replace HXR := Lib.hid (HXR.out.upE hb)
      clear hb
      go_wp2_with fail
      go_meet
      exact ⟨rfl, HE.out⟩
    case true =>
      replace HELM := Lib.hid (HELM.out rfl)
      go_wp2_with fail
      refine (smE_w _ _ Y _ HXR.out HE.out.ry HYM.out).mono ?_
      rintro e w4 ⟨rfl, hb⟩
      replace HE := Lib.hid (HE.out.up hb)
      replace HXR := Lib.hid (HXR.out.upE hb)
      clear hb
      go_wp2_with fail
      refine (HELM.out _ _ HE.out.mx HE.out.ry).mono ?_
      rintro e w5 ⟨rfl, hb⟩
      replace HE := Lib.hid (HE.out.up hb)
      replace HXR := Lib.hid (HXR.out.upE hb)
      clear hb
      go_wp2_with fail
      go_meet
      exact ⟨rfl, HE.out⟩
  case rest =>
    obtain ⟨rfl, he⟩ := hcut
    clear HE HXR HELM
    have HE := Lib.hid he; clear he
    go_upto_region 8 with fail
    go_cut [92] from 85 to 92 (fun s92 wx => s92 = .bool (wordB m la && wordB m lb) ∧ El4 w wx (.slice xa m.length xcap) (.slice aa la.length acap) (.slice ba lb.length bcap) y m la lb Y)
    case first =>
      obtain ⟨wa, hwa⟩ : ∃ wa, wordB m la = wa := ⟨_, rfl⟩
      obtain ⟨wb, hwb⟩ : ∃ wb, wordB m lb = wb := ⟨_, rfl⟩
      rw [hwa] at HW1; rw [hwb] at HW2
      have HWA := Lib.hid hwa; have HWB := Lib.hid hwb; clear hwa hwb
      cases wa
      case false =>
        go_wp2_with fail
        refine (HW1.out _ HE.out.mx HE.out.ra).mono ?_
        rintro e w6 ⟨rfl, hb⟩
        replace HE := Lib.hid (HE.out.up hb)
        clear hb
        go_wp2_with fail
        go_meet
        exact ⟨by rw [HWA.out]; rfl, HE.out⟩
      case true =>
        go_wp2_with fail
        refine (HW1.out _ HE.out.mx HE.out.ra).mono ?_
        rintro e w7 ⟨rfl, hb⟩
        replace HE := Lib.hid (HE.out.up hb)
        clear hb
        go_wp2_with fail
        refine (HW2.out _ HE.out.mx HE.out.rb).mono ?_
        rintro e w8 ⟨rfl, hb⟩
        replace HE := Lib.hid (HE.out.up hb)
        clear hb
        go_wp2_with fail
        go_meet
        exact ⟨by rw [HWA.out, HWB.out]; rfl, HE.out⟩
    case rest =>
      obtain ⟨rfl, he⟩ := hcut
      clear HE HW1 HW2
      have HE := Lib.hid he; clear he
      generalize (wordB m la && wordB m lb) = wab at *
      go_upto_if 92 with fail
      go_cut [] from 93 to 182 (fun wx => El4 w wx (.slice xa m.length xcap) (.slice aa la.length acap) (.slice ba lb.length bcap) y m la lb Y)
      case first =>
        cases wab
        case false =>
          go_wp2_with fail
          go_meet
          exact HE.out
        case true =>
          obtain ⟨hwa, hwb⟩ := HBOTH.out rfl
          have hI := hwa.2.1
          have HIV := Lib.hid (fun (wx : World) (hx : MatB wx.heap.size wx (.slice xa m.length xcap) m) (hy : RowB wx.heap.size wx (.slice aa la.length acap) la) => show Calls Tryz.prog 12 #[.slice xa m.length xcap, .slice aa la.length acap] wx (MakesS2 wx (invL m la) (.bool true)) from by
            have := invi_e (.slice xa m.length xcap) (.slice aa la.length acap) m la wx hx hy HA.out.fit (by have := HLA.out; omega)
            rwa [inv_word hwa] at this)
          have HID := Lib.hid (fun (u : Value) (wx : World) (hx : MatB wx.heap.size wx (.slice xa m.length xcap) m) (hy : RowB wx.heap.size wx (.slice aa la.length acap) la) (hz : RowB wx.heap.size wx u (invL m la)) => show Calls Tryz.prog 6 #[.slice xa m.length xcap, .slice aa la.length acap, u] wx (MakesS2 wx [] (.bool true)) from by
            have := muli_e (.slice xa m.length xcap) (.slice aa la.length acap) u m la (invL m la) wx hx hy hz HA.out.fit (by have := HLA.out; omega) (by have := nrmL_len m la.reverse; unfold invL; omega)
            rwa [(inv_mul hwa).1, (inv_mul hwa).2] at this)
          have HLE := Lib.hid (fun (wx : World) (hb : Below w.heap.size w wx) => lets9_any w.heap.size 30 wx a len cap hl (HC.out.below hb) hb.size (by omega) xa m.length xcap hI.2.2.1 hI.2.2.2)
          generalize invL m la = IV at *
          clear hwa hwb hI
          go_wp2_with fail
          refine (HLE.out _ HE.out.bl).mono ?_
          rintro e w21 ⟨dv, dl, rfl, h1, hb, h2, h3⟩
          replace HE := Lib.hid (HE.out.up hb)
          have HDV := Lib.hid (h1.1.rowB)
          clear hb
          have HD4 := Lib.hid h2
          clear h1 h2 h3
          go_wp2_with fail
          refine (HMI.out _ _ Y dl (by have := HYL.out; omega) (by have := HD4.out; omega) _ HE.out.mx HE.out.ry HDV.out).mono ?_
          rintro e w22 ⟨lv, rfl, h1, hb⟩
          replace HE := Lib.hid (HE.out.up hb)
          replace HDV := Lib.hid (HDV.out.upE hb)
          have HLV := Lib.hid (h1.1.rowB)
          clear hb
          clear h1
          go_wp2_with fail
          refine (HMI.out _ _ lb dl (by have := HLB.out; omega) (by have := HD4.out; omega) _ HE.out.mx HE.out.rb HDV.out).mono ?_
          rintro e w23 ⟨ev, rfl, h1, hb⟩
          replace HE := Lib.hid (HE.out.up hb)
          replace HDV := Lib.hid (HDV.out.upE hb)
          replace HLV := Lib.hid (HLV.out.upE hb)
          have HEV := Lib.hid (h1.1.rowB)
          clear hb
          clear h1
          go_wp2_with fail
          refine (HMI.out _ _ la (mulL m lb dl) (by have := HLA.out; omega) (by have := mulL_len m lb dl; omega) _ HE.out.mx HE.out.ra HEV.out).mono ?_
          rintro e w24 ⟨rv, rfl, h1, hb⟩
          replace HE := Lib.hid (HE.out.up hb)
          replace HDV := Lib.hid (HDV.out.upE hb)
          replace HLV := Lib.hid (HLV.out.upE hb)
          replace HEV := Lib.hid (HEV.out.upE hb)
          have HRV := Lib.hid (h1.1.rowB)
          clear hb
          clear h1
          go_wp2_with fail
          refine (HIV.out _ HE.out.mx HE.out.ra).mono ?_
          rintro e w25 ⟨iv, rfl, h1, hb⟩
          replace HE := Lib.hid (HE.out.up hb)
          replace HDV := Lib.hid (HDV.out.upE hb)
          replace HLV := Lib.hid (HLV.out.upE hb)
          replace HEV := Lib.hid (HEV.out.upE hb)
          replace HRV := Lib.hid (HRV.out.upE hb)
          have HIR := Lib.hid (h1.1.rowB)
          clear hb
          clear h1
          go_wp2_with fail
          refine (HID.out _ _ HE.out.mx HE.out.ra HIR.out).mono ?_
          rintro e w26 ⟨nv, rfl, h1, hb⟩
          replace HE := Lib.hid (HE.out.up hb)
          replace HDV := Lib.hid (HDV.out.upE hb)
          replace HLV := Lib.hid (HLV.out.upE hb)
          replace HEV := Lib.hid (HEV.out.upE hb)
          replace HRV := Lib.hid (HRV.out.upE hb)
          replace HIR := Lib.hid (HIR.out.upE hb)
          clear HIR
          clear HEV
          clear HDV
          clear hb
          obtain ⟨nva, nvc, rfl⟩ := h1.1.slice
          clear h1 HIV HID HLE HD4
          have HAS := Lib.hid (HASS.out dl)
          have HLM := Lib.hid (show (mulL m Y dl).length ≤ maxLen by have := mulL_len m Y dl; unfold maxLen; omega)
          generalize mulB m Y dl = b1 at *
          generalize mulB m lb dl = b2 at *
          generalize mulB m la (mulL m lb dl) = b3 at *
          generalize mulL m la (mulL m lb dl) = LR at *
          generalize mulL m Y dl = LL at *
          go_upto_region 15 with fail
          go_cut [182] from 130 to 182 (fun s182 wx => s182 = .bool false ∧ El4 w wx (.slice xa m.length xcap) (.slice aa la.length acap) (.slice ba lb.length bcap) y m la lb Y)
          case first =>
            cases D
            case false =>
              go_wp2_with fail
              go_meet
              exact ⟨rfl, HE.out⟩
            case true =>
              cases b1
              case false =>
                by_cases h15 : la.length + lb.length ≤ 15
                case neg =>
                  have hd : decide ((la.length : Int) + (lb.length : Int) ≤ 15) = false := decide_eq_false (by omega)
                  have hq : ¬ ((la.length : Int) + (lb.length : Int) ≤ 15) := by omega
                  have hw : IntKind.i64.wrap ((la.length : Int) + (lb.length : Int)) = (la.length : Int) + (lb.length : Int) := by rw [IntKind.wrap_i64]; have := HLA.out; have := HLB.out; omega
                  clear h15
                  go_wp2_with fail
                  go_meet
                  exact ⟨rfl, HE.out⟩
                case pos =>
                  have hd : decide ((la.length : Int) + (lb.length : Int) ≤ 15) = true := decide_eq_true (by omega)
                  have hq : ((la.length : Int) + (lb.length : Int) ≤ 15) := by omega
                  have hw : IntKind.i64.wrap ((la.length : Int) + (lb.length : Int)) = (la.length : Int) + (lb.length : Int) := by rw [IntKind.wrap_i64]; have := HLA.out; have := HLB.out; omega
                  have hcs := HCS.out rfl h15
                  rw [← hcs] at HSAM
                  clear h15 hcs
                  generalize comB m la lb = cb at *
                  have hcb : (cb != cb) = false := by simp
                  go_wp2_with fail
                  refine (HC1.out _ HE.out.mx HE.out.ra HE.out.rb).mono ?_
                  rintro e w27 ⟨rfl, hb⟩
                  replace HE := Lib.hid (HE.out.up hb)
                  replace HLV := Lib.hid (HLV.out.upE hb)
                  replace HRV := Lib.hid (HRV.out.upE hb)
                  clear hb
                  go_wp2_with fail
                  refine (HCAT.out _ HE.out.ra HE.out.rb).mono ?_
                  rintro e w28 ⟨zv, rfl, h1, hb⟩
                  replace HE := Lib.hid (HE.out.up hb)
                  replace HLV := Lib.hid (HLV.out.upE hb)
                  replace HRV := Lib.hid (HRV.out.upE hb)
                  have HZV := Lib.hid (h1.1.rowB)
                  clear hb
                  clear h1
                  go_wp2_with fail
                  refine (HSAM.out _ _ _ HE.out.mx HE.out.ry HZV.out).mono ?_
                  rintro e w29 ⟨rfl, hb⟩
                  replace HE := Lib.hid (HE.out.up hb)
                  replace HLV := Lib.hid (HLV.out.upE hb)
                  replace HRV := Lib.hid (HRV.out.upE hb)
                  replace HZV := Lib.hid (HZV.out.upE hb)
                  clear hb
                  go_wp2_with fail
                  go_meet
                  exact ⟨rfl, HE.out⟩
              case true =>
                cases b2
                case false =>
                  by_cases h15 : la.length + lb.length ≤ 15
                  case neg =>
                    have hd : decide ((la.length : Int) + (lb.length : Int) ≤ 15) = false := decide_eq_false (by omega)
                    have hq : ¬ ((la.length : Int) + (lb.length : Int) ≤ 15) := by omega
                    have hw : IntKind.i64.wrap ((la.length : Int) + (lb.length : Int)) = (la.length : Int) + (lb.length : Int) := by rw [IntKind.wrap_i64]; have := HLA.out; have := HLB.out; omega
                    clear h15
                    go_wp2_with fail
                    go_meet
                    exact ⟨rfl, HE.out⟩
                  case pos =>
                    have hd : decide ((la.length : Int) + (lb.length : Int) ≤ 15) = true := decide_eq_true (by omega)
                    have hq : ((la.length : Int) + (lb.length : Int) ≤ 15) := by omega
                    have hw : IntKind.i64.wrap ((la.length : Int) + (lb.length : Int)) = (la.length : Int) + (lb.length : Int) := by rw [IntKind.wrap_i64]; have := HLA.out; have := HLB.out; omega
                    have hcs := HCS.out rfl h15
                    rw [← hcs] at HSAM
                    clear h15 hcs
                    generalize comB m la lb = cb at *
                    have hcb : (cb != cb) = false := by simp
                    go_wp2_with fail
                    refine (HC1.out _ HE.out.mx HE.out.ra HE.out.rb).mono ?_
                    rintro e w27 ⟨rfl, hb⟩
                    replace HE := Lib.hid (HE.out.up hb)
                    replace HLV := Lib.hid (HLV.out.upE hb)
                    replace HRV := Lib.hid (HRV.out.upE hb)
                    clear hb
                    go_wp2_with fail
                    refine (HCAT.out _ HE.out.ra HE.out.rb).mono ?_
                    rintro e w28 ⟨zv, rfl, h1, hb⟩
                    replace HE := Lib.hid (HE.out.up hb)
                    replace HLV := Lib.hid (HLV.out.upE hb)
                    replace HRV := Lib.hid (HRV.out.upE hb)
                    have HZV := Lib.hid (h1.1.rowB)
                    clear hb
                    clear h1
                    go_wp2_with fail
                    refine (HSAM.out _ _ _ HE.out.mx HE.out.ry HZV.out).mono ?_
                    rintro e w29 ⟨rfl, hb⟩
                    replace HE := Lib.hid (HE.out.up hb)
                    replace HLV := Lib.hid (HLV.out.upE hb)
                    replace HRV := Lib.hid (HRV.out.upE hb)
                    replace HZV := Lib.hid (HZV.out.upE hb)
                    clear hb
                    go_wp2_with fail
                    go_meet
                    exact ⟨rfl, HE.out⟩
                case true =>
                  cases b3
                  case false =>
                    by_cases h15 : la.length + lb.length ≤ 15
                    case neg =>
                      have hd : decide ((la.length : Int) + (lb.length : Int) ≤ 15) = false := decide_eq_false (by omega)
                      have hq : ¬ ((la.length : Int) + (lb.length : Int) ≤ 15) := by omega
                      have hw : IntKind.i64.wrap ((la.length : Int) + (lb.length : Int)) = (la.length : Int) + (lb.length : Int) := by rw [IntKind.wrap_i64]; have := HLA.out; have := HLB.out; omega
                      clear h15
                      go_wp2_with fail
                      go_meet
                      exact ⟨rfl, HE.out⟩
                    case pos =>
                      have hd : decide ((la.length : Int) + (lb.length : Int) ≤ 15) = true := decide_eq_true (by omega)
                      have hq : ((la.length : Int) + (lb.length : Int) ≤ 15) := by omega
                      have hw : IntKind.i64.wrap ((la.length : Int) + (lb.length : Int)) = (la.length : Int) + (lb.length : Int) := by rw [IntKind.wrap_i64]; have := HLA.out; have := HLB.out; omega
                      have hcs := HCS.out rfl h15
                      rw [← hcs] at HSAM
                      clear h15 hcs
                      generalize comB m la lb = cb at *
                      have hcb : (cb != cb) = false := by simp
                      go_wp2_with fail
                      refine (HC1.out _ HE.out.mx HE.out.ra HE.out.rb).mono ?_
                      rintro e w27 ⟨rfl, hb⟩
                      replace HE := Lib.hid (HE.out.up hb)
                      replace HLV := Lib.hid (HLV.out.upE hb)
                      replace HRV := Lib.hid (HRV.out.upE hb)
                      clear hb
                      go_wp2_with fail
                      refine (HCAT.out _ HE.out.ra HE.out.rb).mono ?_
                      rintro e w28 ⟨zv, rfl, h1, hb⟩
                      replace HE := Lib.hid (HE.out.up hb)
                      replace HLV := Lib.hid (HLV.out.upE hb)
                      replace HRV := Lib.hid (HRV.out.upE hb)
                      have HZV := Lib.hid (h1.1.rowB)
                      clear hb
                      clear h1
                      go_wp2_with fail
                      refine (HSAM.out _ _ _ HE.out.mx HE.out.ry HZV.out).mono ?_
                      rintro e w29 ⟨rfl, hb⟩
                      replace HE := Lib.hid (HE.out.up hb)
                      replace HLV := Lib.hid (HLV.out.upE hb)
                      replace HRV := Lib.hid (HRV.out.upE hb)
                      replace HZV := Lib.hid (HZV.out.upE hb)
                      clear hb
                      go_wp2_with fail
                      go_meet
                      exact ⟨rfl, HE.out⟩
                  case true =>
                    have has := HAS.out rfl rfl rfl rfl
                    subst has
                    by_cases h15 : la.length + lb.length ≤ 15
                    case neg =>
                      have hd : decide ((la.length : Int) + (lb.length : Int) ≤ 15) = false := decide_eq_false (by omega)
                      have hq : ¬ ((la.length : Int) + (lb.length : Int) ≤ 15) := by omega
                      have hw : IntKind.i64.wrap ((la.length : Int) + (lb.length : Int)) = (la.length : Int) + (lb.length : Int) := by rw [IntKind.wrap_i64]; have := HLA.out; have := HLB.out; omega
                      clear h15
                      go_wp2_with fail
                      refine (smE_w _ _ _ _ HLV.out HRV.out HLM.out).mono ?_
                      rintro e w27 ⟨rfl, hb⟩
                      replace HE := Lib.hid (HE.out.up hb)
                      replace HLV := Lib.hid (HLV.out.upE hb)
                      replace HRV := Lib.hid (HRV.out.upE hb)
                      clear hb
                      go_wp2_with fail
                      go_meet
                      exact ⟨rfl, HE.out⟩
                    case pos =>
                      have hd : decide ((la.length : Int) + (lb.length : Int) ≤ 15) = true := decide_eq_true (by omega)
                      have hq : ((la.length : Int) + (lb.length : Int) ≤ 15) := by omega
                      have hw : IntKind.i64.wrap ((la.length : Int) + (lb.length : Int)) = (la.length : Int) + (lb.length : Int) := by rw [IntKind.wrap_i64]; have := HLA.out; have := HLB.out; omega
                      have hcs := HCS.out rfl h15
                      rw [← hcs] at HSAM
                      clear h15 hcs
                      generalize comB m la lb = cb at *
                      have hcb : (cb != cb) = false := by simp
                      go_wp2_with fail
                      refine (smE_w _ _ _ _ HLV.out HRV.out HLM.out).mono ?_
                      rintro e w27 ⟨rfl, hb⟩
                      replace HE := Lib.hid (HE.out.up hb)
                      replace HLV := Lib.hid (HLV.out.upE hb)
                      replace HRV := Lib.hid (HRV.out.upE hb)
                      clear hb
                      go_wp2_with fail
                      refine (HC1.out _ HE.out.mx HE.out.ra HE.out.rb).mono ?_
                      rintro e w28 ⟨rfl, hb⟩
                      replace HE := Lib.hid (HE.out.up hb)
                      replace HLV := Lib.hid (HLV.out.upE hb)
                      replace HRV := Lib.hid (HRV.out.upE hb)
                      clear hb
                      go_wp2_with fail
                      refine (HCAT.out _ HE.out.ra HE.out.rb).mono ?_
                      rintro e w29 ⟨zv, rfl, h1, hb⟩
                      replace HE := Lib.hid (HE.out.up hb)
                      replace HLV := Lib.hid (HLV.out.upE hb)
                      replace HRV := Lib.hid (HRV.out.upE hb)
                      have HZV := Lib.hid (h1.1.rowB)
                      clear hb
                      clear h1
                      go_wp2_with fail
                      refine (HSAM.out _ _ _ HE.out.mx HE.out.ry HZV.out).mono ?_
                      rintro e w30 ⟨rfl, hb⟩
                      replace HE := Lib.hid (HE.out.up hb)
                      replace HLV := Lib.hid (HLV.out.upE hb)
                      replace HRV := Lib.hid (HRV.out.upE hb)
                      replace HZV := Lib.hid (HZV.out.upE hb)
                      clear hb
                      go_wp2_with fail
                      go_meet
                      exact ⟨rfl, HE.out⟩
          case rest =>
            obtain ⟨rfl, he⟩ := hcut
            go_wp2_with fail
            go_meet
            exact he
      case rest =>
        clear HE HMI HBOTH HASS HCS HSAM HCAT
        have HE := Lib.hid hcut; clear hcut
        go_wp2_with fail
        refine (drawPe_any w.heap.size _ _ len hl (HC.out.below HE.out.bl) HE.out.bl.size).mono ?_
        rintro e w41 ⟨xd, vd, kd, md, ld, rfl, hb, h1, h2, h3, h4⟩
        replace HE := Lib.hid (HE.out.up hb)
        have HXD := Lib.hid (h1.mat)
        have HVD := Lib.hid (h3.1.rowB)
        clear hb
        have HPI := Lib.hid (fun (wx : World) (hx : MatB wx.heap.size wx xd md) (hy : RowB wx.heap.size wx vd ld) => powi_e xd vd md ld kd wx hx hy h2.fit (by omega))
        have HPS := Lib.hid (fun (wx : World) (hx : MatB wx.heap.size wx xd md) (hy : RowB wx.heap.size wx vd ld) => pows_e xd vd md ld kd wx hx hy h2.fit (by omega))
        have HPL := Lib.hid (show (powL md ld kd).length ≤ maxLen by have := powL_len md ld kd; unfold maxLen; omega)
        generalize powL md ld kd = PL at *
        generalize powB md ld kd = pb at *
        have hpb : (pb == pb) = true := by simp
        clear h1 h2 h3 h4
        go_wp2_with fail
        refine (HPI.out _ HXD.out HVD.out).mono ?_
        rintro e w42 ⟨p1, rfl, h1, hb⟩
        replace HE := Lib.hid (HE.out.up hb)
        replace HXD := Lib.hid (HXD.out.upE hb)
        replace HVD := Lib.hid (HVD.out.upE hb)
        have HP1 := Lib.hid (h1.1.rowB)
        clear hb
        clear h1
        go_wp2_with fail
        refine (HPS.out _ HXD.out HVD.out).mono ?_
        rintro e w43 ⟨p2, rfl, h1, hb⟩
        replace HE := Lib.hid (HE.out.up hb)
        replace HXD := Lib.hid (HXD.out.upE hb)
        replace HVD := Lib.hid (HVD.out.upE hb)
        replace HP1 := Lib.hid (HP1.out.upE hb)
        have HP2 := Lib.hid (h1.1.rowB)
        clear HXD
        clear HVD
        clear hb
        clear h1 HPI HPS
        go_wp2_with fail
        refine (drawCe_any w.heap.size _ _ len hl (HC.out.below HE.out.bl) HE.out.bl.size).mono ?_
        rintro e w44 ⟨xc, uc, bc, mc, lc, lc2, rfl, hb, h1, h2, h3, h4, h5, h6⟩
        replace HE := Lib.hid (HE.out.up hb)
        replace HP1 := Lib.hid (HP1.out.upE hb)
        replace HP2 := Lib.hid (HP2.out.upE hb)
        have HXC := Lib.hid (h1.mat)
        have HUC := Lib.hid (h3.1.rowB)
        have HBC := Lib.hid (h5.1.rowB)
        clear hb
        have HJI := Lib.hid (fun (wx : World) (hx : MatB wx.heap.size wx xc mc) (hy : RowB wx.heap.size wx uc lc) (hz : RowB wx.heap.size wx bc lc2) => cnji_e xc uc bc mc lc lc2 wx hx hy hz h2.fit (by omega) (by omega))
        have HJS := Lib.hid (fun (wx : World) (hx : MatB wx.heap.size wx xc mc) (hy : RowB wx.heap.size wx uc lc) (hz : RowB wx.heap.size wx bc lc2) => cnjs_e xc uc bc mc lc lc2 wx hx hy hz h2.fit (by omega) (by omega))
        have HJL := Lib.hid (show (cnjL mc lc lc2).length ≤ maxLen by have := cnjL_len mc lc lc2; unfold maxLen; omega)
        generalize cnjL mc lc lc2 = JL at *
        generalize cnjB mc lc lc2 = jb at *
        have hjb : (jb == jb) = true := by simp
        clear h1 h2 h3 h4 h5 h6
        go_wp2_with fail
        refine (HJI.out _ HXC.out HUC.out HBC.out).mono ?_
        rintro e w45 ⟨j1, rfl, h1, hb⟩
        replace HE := Lib.hid (HE.out.up hb)
        replace HP1 := Lib.hid (HP1.out.upE hb)
        replace HP2 := Lib.hid (HP2.out.upE hb)
        replace HXC := Lib.hid (HXC.out.upE hb)
        replace HUC := Lib.hid (HUC.out.upE hb)
        replace HBC := Lib.hid (HBC.out.upE hb)
        have HJ1 := Lib.hid (h1.1.rowB)
        clear hb
        clear h1
        go_wp2_with fail
        refine (HJS.out _ HXC.out HUC.out HBC.out).mono ?_
        rintro e w46 ⟨j2, rfl, h1, hb⟩
        replace HE := Lib.hid (HE.out.up hb)
        replace HP1 := Lib.hid (HP1.out.upE hb)
        replace HP2 := Lib.hid (HP2.out.upE hb)
        replace HXC := Lib.hid (HXC.out.upE hb)
        replace HUC := Lib.hid (HUC.out.upE hb)
        replace HBC := Lib.hid (HBC.out.upE hb)
        replace HJ1 := Lib.hid (HJ1.out.upE hb)
        have HJ2 := Lib.hid (h1.1.rowB)
        clear HXC
        clear HUC
        clear HBC
        clear hb
        clear h1 HJI HJS
        go_wp2_with fail
        refine (drawVe_any w.heap.size _ _ len hl (HC.out.below HE.out.bl) HE.out.bl.size).mono ?_
        rintro e w47 ⟨xh, vh, mh, lh, rfl, hb, h1, h2, h3, h4⟩
        replace HE := Lib.hid (HE.out.up hb)
        replace HP1 := Lib.hid (HP1.out.upE hb)
        replace HP2 := Lib.hid (HP2.out.upE hb)
        replace HJ1 := Lib.hid (HJ1.out.upE hb)
        replace HJ2 := Lib.hid (HJ2.out.upE hb)
        have HXH := Lib.hid (h1.mat)
        have HVH := Lib.hid (h3.1.rowB)
        clear hb
        have HVI := Lib.hid (fun (wx : World) (hx : MatB wx.heap.size wx xh mh) (hy : RowB wx.heap.size wx vh lh) => invi_e xh vh mh lh wx hx hy h2.fit (by omega))
        have HVS := Lib.hid (fun (wx : World) (hx : MatB wx.heap.size wx xh mh) (hy : RowB wx.heap.size wx vh lh) => invs_e xh vh mh lh wx hx hy h2.fit (by omega))
        have HVL := Lib.hid (show (invL mh lh).length ≤ maxLen by have := nrmL_len mh lh.reverse; unfold invL maxLen; omega)
        generalize invL mh lh = VL at *
        generalize invB mh lh = vb2 at *
        have hvb : (vb2 == vb2) = true := by simp
        clear h1 h2 h3 h4
        go_wp2_with fail
        refine (HVI.out _ HXH.out HVH.out).mono ?_
        rintro e w48 ⟨i1, rfl, h1, hb⟩
        replace HE := Lib.hid (HE.out.up hb)
        replace HP1 := Lib.hid (HP1.out.upE hb)
        replace HP2 := Lib.hid (HP2.out.upE hb)
        replace HJ1 := Lib.hid (HJ1.out.upE hb)
        replace HJ2 := Lib.hid (HJ2.out.upE hb)
        replace HXH := Lib.hid (HXH.out.upE hb)
        replace HVH := Lib.hid (HVH.out.upE hb)
        have HI1 := Lib.hid (h1.1.rowB)
        clear hb
        clear h1
        go_wp2_with fail
        refine (HVS.out _ HXH.out HVH.out).mono ?_
        rintro e w49 ⟨i2, rfl, h1, hb⟩
        replace HE := Lib.hid (HE.out.up hb)
        replace HP1 := Lib.hid (HP1.out.upE hb)
        replace HP2 := Lib.hid (HP2.out.upE hb)
        replace HJ1 := Lib.hid (HJ1.out.upE hb)
        replace HJ2 := Lib.hid (HJ2.out.upE hb)
        replace HXH := Lib.hid (HXH.out.upE hb)
        replace HVH := Lib.hid (HVH.out.upE hb)
        replace HI1 := Lib.hid (HI1.out.upE hb)
        have HI2 := Lib.hid (h1.1.rowB)
        clear HXH
        clear HVH
        clear hb
        clear h1 HVI HVS
        go_wp2_with fail
        refine (drawIo_any w.heap.size _ _ len hl (HC.out.below HE.out.bl) HE.out.bl.size).mono ?_
        rintro e w50 ⟨xm, tm, mm, lm, rfl, hb, h1, h2, h3, h4⟩
        replace HE := Lib.hid (HE.out.up hb)
        replace HP1 := Lib.hid (HP1.out.upE hb)
        replace HP2 := Lib.hid (HP2.out.upE hb)
        replace HJ1 := Lib.hid (HJ1.out.upE hb)
        replace HJ2 := Lib.hid (HJ2.out.upE hb)
        replace HI1 := Lib.hid (HI1.out.upE hb)
        replace HI2 := Lib.hid (HI2.out.upE hb)
        have HXM := Lib.hid (h1.mat)
        have HTM := Lib.hid (h3.1.rowB)
        clear hb
        have HOI := Lib.hid (fun (wx : World) (hx : MatB wx.heap.size wx xm mm) (hy : RowB wx.heap.size wx tm lm) => ivoi_e xm tm mm lm wx hx hy h2.fit (by omega))
        have HOS := Lib.hid (fun (wx : World) (hx : MatB wx.heap.size wx xm mm) (hy : RowB wx.heap.size wx tm lm) => ivos_e xm tm mm lm wx hx hy h2.fit (by omega))
        have HOO := Lib.hid (fun (wx : World) (hx : MatB wx.heap.size wx xm mm) (hy : RowB wx.heap.size wx tm lm) => ordi_any _ _ xm tm mm lm wx hx hy (Nat.le_refl _) (Nat.le_refl _) h2.fit (by omega))
        have HOR := Lib.hid (fun (h : ivoB mm lm = true) => ivo_ord h)
        generalize ivoB mm lm = ob at *
        generalize ordI mm lm = on at *
        have hob : (ob == ob) = true := by simp
        clear h1 h2 h3 h4
        go_wp2_with fail
        refine (drawEe_any a len cap w.heap.size _ hl (HC.out.below HE.out.bl) HE.out.bl.size).mono ?_
        rintro e w51 ⟨xo, ro, mo, lo, rfl, hb, h1, h2, h3, h4⟩
        replace HE := Lib.hid (HE.out.up hb)
        replace HP1 := Lib.hid (HP1.out.upE hb)
        replace HP2 := Lib.hid (HP2.out.upE hb)
        replace HJ1 := Lib.hid (HJ1.out.upE hb)
        replace HJ2 := Lib.hid (HJ2.out.upE hb)
        replace HI1 := Lib.hid (HI1.out.upE hb)
        replace HI2 := Lib.hid (HI2.out.upE hb)
        replace HXM := Lib.hid (HXM.out.upE hb)
        replace HTM := Lib.hid (HTM.out.upE hb)
        have HXO := Lib.hid (h1.mat)
        have HRO := Lib.hid (h3.1.rowB)
        clear hb
        have HLI := Lib.hid (fun (wx : World) (hx : MatB wx.heap.size wx xo mo) (hy : RowB wx.heap.size wx ro lo) => elmi_e xo ro mo lo wx hx hy h2.fit (by omega))
        have HLS := Lib.hid (fun (wx : World) (hx : MatB wx.heap.size wx xo mo) (hy : RowB wx.heap.size wx ro lo) => elms_e xo ro mo lo wx hx hy h2.fit (by omega))
        generalize elemB mo lo = eb at *
        have heb : (eb == eb) = true := by simp
        generalize comB m la lb = cb at *
        have hcb : (cb == cb) = true := by simp
        clear h1 h2 h3 h4
        go_wp2_with fail
        refine (smE_w _ _ PL _ HP1.out HP2.out HPL.out).mono ?_
        rintro e w52 ⟨rfl, hb⟩
        replace HE := Lib.hid (HE.out.up hb)
        replace HP1 := Lib.hid (HP1.out.upE hb)
        replace HP2 := Lib.hid (HP2.out.upE hb)
        replace HJ1 := Lib.hid (HJ1.out.upE hb)
        replace HJ2 := Lib.hid (HJ2.out.upE hb)
        replace HI1 := Lib.hid (HI1.out.upE hb)
        replace HI2 := Lib.hid (HI2.out.upE hb)
        replace HXM := Lib.hid (HXM.out.upE hb)
        replace HTM := Lib.hid (HTM.out.upE hb)
        replace HXO := Lib.hid (HXO.out.upE hb)
        replace HRO := Lib.hid (HRO.out.upE hb)
        clear HP1
        clear HP2
        clear hb
        go_wp2_with fail
        refine (smE_w _ _ JL _ HJ1.out HJ2.out HJL.out).mono ?_
        rintro e w53 ⟨rfl, hb⟩
        replace HE := Lib.hid (HE.out.up hb)
        replace HJ1 := Lib.hid (HJ1.out.upE hb)
        replace HJ2 := Lib.hid (HJ2.out.upE hb)
        replace HI1 := Lib.hid (HI1.out.upE hb)
        replace HI2 := Lib.hid (HI2.out.upE hb)
        replace HXM := Lib.hid (HXM.out.upE hb)
        replace HTM := Lib.hid (HTM.out.upE hb)
        replace HXO := Lib.hid (HXO.out.upE hb)
        replace HRO := Lib.hid (HRO.out.upE hb)
        clear HJ1
        clear HJ2
        clear hb
        go_wp2_with fail
        refine (smE_w _ _ VL _ HI1.out HI2.out HVL.out).mono ?_
        rintro e w54 ⟨rfl, hb⟩
        replace HE := Lib.hid (HE.out.up hb)
        replace HI1 := Lib.hid (HI1.out.upE hb)
        replace HI2 := Lib.hid (HI2.out.upE hb)
        replace HXM := Lib.hid (HXM.out.upE hb)
        replace HTM := Lib.hid (HTM.out.upE hb)
        replace HXO := Lib.hid (HXO.out.upE hb)
        replace HRO := Lib.hid (HRO.out.upE hb)
        clear HI1
        clear HI2
        clear hb
        go_wp2_with fail
        refine (HOI.out _ HXM.out HTM.out).mono ?_
        rintro e w55 ⟨rfl, hb⟩
        replace HE := Lib.hid (HE.out.up hb)
        replace HXM := Lib.hid (HXM.out.upE hb)
        replace HTM := Lib.hid (HTM.out.upE hb)
        replace HXO := Lib.hid (HXO.out.upE hb)
        replace HRO := Lib.hid (HRO.out.upE hb)
        clear hb
        go_wp2_with fail
        refine (HOS.out _ HXM.out HTM.out).mono ?_
        rintro e w56 ⟨rfl, hb⟩
        replace HE := Lib.hid (HE.out.up hb)
        replace HXM := Lib.hid (HXM.out.upE hb)
        replace HTM := Lib.hid (HTM.out.upE hb)
        replace HXO := Lib.hid (HXO.out.upE hb)
        replace HRO := Lib.hid (HRO.out.upE hb)
        clear hb
        go_wp2_with fail
        refine (HLI.out _ HXO.out HRO.out).mono ?_
        rintro e w57 ⟨rfl, hb⟩
        replace HE := Lib.hid (HE.out.up hb)
        replace HXM := Lib.hid (HXM.out.upE hb)
        replace HTM := Lib.hid (HTM.out.upE hb)
        replace HXO := Lib.hid (HXO.out.upE hb)
        replace HRO := Lib.hid (HRO.out.upE hb)
        clear hb
        go_wp2_with fail
        refine (HLS.out _ HXO.out HRO.out).mono ?_
        rintro e w58 ⟨rfl, hb⟩
        replace HE := Lib.hid (HE.out.up hb)
        replace HXM := Lib.hid (HXM.out.upE hb)
        replace HTM := Lib.hid (HTM.out.upE hb)
        replace HXO := Lib.hid (HXO.out.upE hb)
        replace HRO := Lib.hid (HRO.out.upE hb)
        clear HXO
        clear HRO
        clear hb
        go_wp2_with fail
        refine (HC1.out _ HE.out.mx HE.out.ra HE.out.rb).mono ?_
        rintro e w59 ⟨rfl, hb⟩
        replace HE := Lib.hid (HE.out.up hb)
        replace HXM := Lib.hid (HXM.out.upE hb)
        replace HTM := Lib.hid (HTM.out.upE hb)
        clear hb
        go_wp2_with fail
        refine (HC2.out _ HE.out.mx HE.out.ra HE.out.rb).mono ?_
        rintro e w60 ⟨rfl, hb⟩
        replace HE := Lib.hid (HE.out.up hb)
        replace HXM := Lib.hid (HXM.out.upE hb)
        replace HTM := Lib.hid (HTM.out.upE hb)
        clear hb
        go_wp2_with fail
        cases ob
        case false =>
          refine (HOI.out _ HXM.out HTM.out).mono ?_
          rintro e w61 ⟨rfl, hb⟩
          replace HE := Lib.hid (HE.out.up hb)
          replace HXM := Lib.hid (HXM.out.upE hb)
          replace HTM := Lib.hid (HTM.out.upE hb)
          clear hb
          go_wp2_with fail
          go_ret
          exact ⟨rfl, HE.out.bl⟩
        case true =>
          refine (HOI.out _ HXM.out HTM.out).mono ?_
          rintro e w61 ⟨rfl, hb⟩
          replace HE := Lib.hid (HE.out.up hb)
          replace HXM := Lib.hid (HXM.out.upE hb)
          replace HTM := Lib.hid (HTM.out.upE hb)
          clear hb
          rcases HOR.out rfl with h2 | h0
          case inl =>
            subst h2
            go_wp2_with fail
            refine (HOO.out _ HXM.out HTM.out).mono ?_
            rintro e w62 ⟨rfl, hb⟩
            replace HE := Lib.hid (HE.out.up hb)
            replace HXM := Lib.hid (HXM.out.upE hb)
            replace HTM := Lib.hid (HTM.out.upE hb)
            clear hb
            go_wp2_with fail
            go_ret
            exact ⟨rfl, HE.out.bl⟩
          case inr =>
            subst h0
            go_wp2_with fail
            refine (HOO.out _ HXM.out HTM.out).mono ?_
            rintro e w62 ⟨rfl, hb⟩
            replace HE := Lib.hid (HE.out.up hb)
            replace HXM := Lib.hid (HXM.out.upE hb)
            replace HTM := Lib.hid (HTM.out.upE hb)
            clear hb
            go_wp2_with fail
            refine (HOO.out _ HXM.out HTM.out).mono ?_
            rintro e w63 ⟨rfl, hb⟩
            replace HE := Lib.hid (HE.out.up hb)
            replace HXM := Lib.hid (HXM.out.upE hb)
            replace HTM := Lib.hid (HTM.out.upE hb)
            clear hb
            go_wp2_with fail
            go_ret
            exact ⟨rfl, HE.out.bl⟩
end Go.Proofs.YtnlbmnielemgiaaGreat
