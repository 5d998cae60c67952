/-
  Proved here: for every byte slice, the law FnExchanges answers true: a descent can be exchanged for one letter of a reduced word, and a word that is not reduced loses two letters (printed by ec.py).
-/
import Derived.Deep.DeepCutAuto
import Derived.Test.YtbmghddmilgngaaEz46
namespace Go.Proofs.Ytbmghddmilgngaa
open Go.ChangeShapes Go.WideShapes Go.ChangeAt Go.ChangeMaps Go.RowKit

set_option maxHeartbeats 16000000 in
set_option maxRecDepth 100000 in
theorem ec_law (a : Option Addr) (len cap : Nat) (w : World) (hl : len ≤ 1048576) (hcode : CodeB w.heap.size w (.slice a len cap) len) :
    Calls Try.prog 3 #[.slice a len cap] w fun e w' => e = .returned (.bool true) ∧ Below w.heap.size w w' := by
  have HC := Lib.hid hcode; clear hcode
  have hbig : decide (1048576 < (len : Int)) = false := by rw [decide_eq_false_iff_not]; omega
  go_enter Try.func3, Try.ntmps3
  go_wp2_with fail
  refine (bigE_w _ a len cap (by omega)).mono ?_
  rintro e w0 ⟨rfl, rfl⟩
  go_wp2_with fail
  refine (drawEx_any a len cap w.heap.size _ hl HC.out (Nat.le_refl _)).mono ?_
  rintro e w1 ⟨x, va, m, la, z, rfl, hb, h1, h2, h3, h4⟩
  obtain ⟨aa, acap, rfl⟩ := h3.1.rowB.slice
  have HA := Lib.hid h2; have HLA := Lib.hid h4; have hro := h3.1.roomy
  have HE := Lib.hid (show Ec w w1 x (.slice aa la.length acap) m la from ⟨h1.mat, h3.1.rowB, hb⟩)
  clear h1 h2 h3 h4 hb
  have HEI := Lib.hid (fun (wx : World) (he : Ec w wx x (.slice aa la.length acap) m la) => exi_e x (.slice aa la.length acap) m la z wx he.mx he.ra hro HA.out.fit (by have := HLA.out; omega))
  have HES := Lib.hid (fun (wx : World) (he : Ec w wx x (.slice aa la.length acap) m la) => exs_e x (.slice aa la.length acap) m la z wx he.mx he.ra HA.out.fit (by have := HLA.out; omega))
  have HRD := Lib.hid (fun (wx : World) (he : Ec w wx x (.slice aa la.length acap) m la) => show Calls Try.prog 13 #[x, (.slice aa la.length acap)] wx fun e w' => e = .returned (.bool (redB m la)) ∧ Below wx.heap.size wx w' from isrd_any _ _ x (.slice aa la.length acap) m la wx he.mx he.ra (Nat.le_refl _) (Nat.le_refl _) HA.out.fit (by have := HLA.out; omega))
  have HLD := Lib.hid (fun (wx : World) (he : Ec w wx x (.slice aa la.length acap) m la) => ldss_any _ _ x (.slice aa la.length acap) m la wx he.mx he.ra (Nat.le_refl _) (Nat.le_refl _) HA.out.fit (by have := HLA.out; omega))
  have HHS := Lib.hid (fun (d : Value) (wx : World) (hd : RowB wx.heap.size wx d (ldsL m la)) => hasE_w d (ldsL m la) z wx hd (by have := ldsL_len m la; unfold maxLen; omega))
  have HNN := Lib.hid (exI_nonneg m la z)
  have HSM := Lib.hid (fun (h : 0 ≤ exI m la z) (h15 : la.length < 15) => exI_same h h15)
  have HDI := Lib.hid (fun (wx : World) (he : Ec w wx x (.slice aa la.length acap) m la) => deli_e (.slice aa la.length acap) la (exI m la z) wx he.ra hro (by have := HLA.out; omega))
  have HDM := Lib.hid (fun (wx : World) (he : Ec w wx x (.slice aa la.length acap) m la) => show Calls Try.prog 19 #[(.slice aa la.length acap), .int .i64 (-1)] wx (MakesS wx la) from by
    have := dels_e (.slice aa la.length acap) la (-1) wx he.ra (by have := HLA.out; omega)
    rwa [delL_out (by omega)] at this)
  have HCT := Lib.hid (fun (u b : Value) (wx : World) (hu : RowB wx.heap.size wx u la) (hb : RowB wx.heap.size wx b [z]) => cats_any _ _ b u [z] la wx hb hu (Nat.le_refl _) (Nat.le_refl _) (by simp) (by have := HLA.out; omega))
  have HSA := Lib.hid (fun (p q : Value) (wx : World) (he : Ec w wx x (.slice aa la.length acap) m la) (hp : RowB wx.heap.size wx p (delL la (exI m la z))) (hq : RowB wx.heap.size wx q ([z] ++ la)) => show Calls Try.prog 16 #[x, p, q] wx fun e w' => e = .returned (.bool (samB m (delL la (exI m la z)) (z :: la))) ∧ Below wx.heap.size wx w' from sami_any _ _ _ x p q m _ (z :: la) wx he.mx hp hq (Nat.le_refl _) (Nat.le_refl _) (Nat.le_refl _) HA.out.fit (by have := delL_le la (exI m la z); have := HLA.out; omega) (by have := HLA.out; rw [List.length_cons]; omega))
  generalize samB m (delL la (exI m la z)) (z :: la) = SS at *
  generalize delL la (exI m la z) = DK at *
  generalize exI m la z = K at *
  generalize redB m la = R at *
  generalize decide (z ∈ ldsL m la) = D at *
  have hkk : (K != K) = false := by simp
  go_wp2_with fail
  refine (HEI.out w1 HE.out).mono ?_
  rintro e w2 ⟨rfl, hb⟩
  replace HE := Lib.hid (HE.out.up hb)
  clear hb
  go_upto_region 5 with fail
  go_cut [61] from 41 to 61 (fun s61 wx => s61 = .bool false ∧ Ec w wx x (.slice aa la.length acap) m la)
  case first =>
    cases R
    case false =>
      have hk := HNN.out; rw [Bool.false_and] at hk
      clear HNN
      go_wp2_with fail
      refine (HES.out _ HE.out).mono ?_
      rintro e w3 ⟨rfl, hb⟩
      replace HE := Lib.hid (HE.out.up hb)
      clear hb
      go_wp2_with fail
      refine (HRD.out _ HE.out).mono ?_
      rintro e w4 ⟨rfl, hb⟩
      replace HE := Lib.hid (HE.out.up hb)
      clear hb
      go_wp2_with fail
      go_meet
      exact ⟨rfl, HE.out⟩
    case true =>
      have hk := HNN.out; rw [Bool.true_and] at hk
      clear HNN
      cases D
      case false =>
        go_wp2_with fail
        refine (HES.out _ HE.out).mono ?_
        rintro e w3 ⟨rfl, hb⟩
        replace HE := Lib.hid (HE.out.up hb)
        clear hb
        go_wp2_with fail
        refine (HRD.out _ HE.out).mono ?_
        rintro e w4 ⟨rfl, hb⟩
        replace HE := Lib.hid (HE.out.up hb)
        clear hb
        go_wp2_with fail
        refine (HLD.out _ HE.out).mono ?_
        rintro e w5 ⟨dv, rfl, h1, hb⟩
        replace HE := Lib.hid (HE.out.up hb)
        have HDV := Lib.hid (h1.1.rowB)
        clear hb
        clear h1
        go_wp2_with fail
        refine (HHS.out _ _ HDV.out).mono ?_
        rintro e w6 ⟨rfl, hb⟩
        replace HE := Lib.hid (HE.out.up hb)
        replace HDV := Lib.hid (HDV.out.upE hb)
        clear hb
        go_wp2_with fail
        go_meet
        exact ⟨rfl, HE.out⟩
      case true =>
        go_wp2_with fail
        refine (HES.out _ HE.out).mono ?_
        rintro e w3 ⟨rfl, hb⟩
        replace HE := Lib.hid (HE.out.up hb)
        clear hb
        go_wp2_with fail
        refine (HRD.out _ HE.out).mono ?_
        rintro e w4 ⟨rfl, hb⟩
        replace HE := Lib.hid (HE.out.up hb)
        clear hb
        go_wp2_with fail
        refine (HLD.out _ HE.out).mono ?_
        rintro e w5 ⟨dv, rfl, h1, hb⟩
        replace HE := Lib.hid (HE.out.up hb)
        have HDV := Lib.hid (h1.1.rowB)
        clear hb
        clear h1
        go_wp2_with fail
        refine (HHS.out _ _ HDV.out).mono ?_
        rintro e w6 ⟨rfl, hb⟩
        replace HE := Lib.hid (HE.out.up hb)
        replace HDV := Lib.hid (HDV.out.upE hb)
        clear hb
        go_wp2_with fail
        go_meet
        exact ⟨rfl, HE.out⟩
  case rest =>
    obtain ⟨rfl, he⟩ := hcut
    clear HE HEI HES HRD HLD HHS HNN hkk
    have HE := Lib.hid he; clear he
    go_upto_region 7 with fail
    go_cut [81] from 62 to 81 (fun s81 wx => s81 = .bool false ∧ Ec w wx x (.slice aa la.length acap) m la)
    case first =>
      by_cases hk : 0 ≤ K
      case neg =>
        have hd : decide (0 ≤ K) = false := decide_eq_false hk
        clear hk
        go_wp2_with fail
        go_meet
        exact ⟨rfl, HE.out⟩
      case pos =>
        have hd : decide (0 ≤ K) = true := decide_eq_true hk
        have HLIT := Lib.hid (fun (wx : World) => (⟨lit_int wx z, (Below.refl wx.heap.size wx).alloc (Nat.le_refl _) _⟩ : RowB (wx.alloc (.cells #[.int .i64 z] 3)).heap.size (wx.alloc (.cells #[.int .i64 z] 3)) (.slice (some ⟨wx.heap.size, 0, none⟩) 1 1) [z] ∧ Below wx.heap.size wx (wx.alloc (.cells #[.int .i64 z] 3))))
        by_cases h15 : la.length < 15
        case pos =>
          have hs := HSM.out hk h15
          subst hs
          clear hk h15 HSM
          go_wp2_with fail
          refine (HDI.out _ HE.out).mono ?_
          rintro e w3 ⟨pv, rfl, h1, hb⟩
          replace HE := Lib.hid (HE.out.up hb)
          have HPV := Lib.hid (h1.1.rowB)
          clear hb
          clear h1
          have hb := (HLIT.out w3).2; have HLZ := Lib.hid (HLIT.out w3).1
          replace HE := Lib.hid (HE.out.up hb); replace HPV := Lib.hid (HPV.out.upE hb)
          clear hb HLIT
          go_wp2_with fail
          refine (HDM.out _ HE.out).mono ?_
          rintro e w4 ⟨qv, rfl, h1, hb⟩
          replace HE := Lib.hid (HE.out.up hb)
          replace HPV := Lib.hid (HPV.out.upE hb)
          replace HLZ := Lib.hid (HLZ.out.upE hb)
          have HQV := Lib.hid (h1.1.rowB)
          clear hb
          clear h1
          go_wp2_with fail
          refine (HCT.out _ _ _ HQV.out HLZ.out).mono ?_
          rintro e w5 ⟨cv, rfl, h1, hb⟩
          replace HE := Lib.hid (HE.out.up hb)
          replace HPV := Lib.hid (HPV.out.upE hb)
          replace HLZ := Lib.hid (HLZ.out.upE hb)
          replace HQV := Lib.hid (HQV.out.upE hb)
          have HCV := Lib.hid (h1.1.rowB)
          clear HLZ
          clear HQV
          clear hb
          clear h1
          go_wp2_with fail
          refine (HSA.out _ _ _ HE.out HPV.out HCV.out).mono ?_
          rintro e w6 ⟨rfl, hb⟩
          replace HE := Lib.hid (HE.out.up hb)
          replace HPV := Lib.hid (HPV.out.upE hb)
          replace HCV := Lib.hid (HCV.out.upE hb)
          clear hb
          go_wp2_with fail
          go_meet
          exact ⟨rfl, HE.out⟩
        case neg =>
          have hd5 : decide ((la.length : Int) < 15) = false := decide_eq_false (by omega)
          have hd6 : decide (la.length < 15) = false := decide_eq_false h15
          have hd7 : ¬ ((la.length : Int) < 15) := by omega
          clear hk HSM
          cases SS
          case false =>
            go_wp2_with fail
            refine (HDI.out _ HE.out).mono ?_
            rintro e w3 ⟨pv, rfl, h1, hb⟩
            replace HE := Lib.hid (HE.out.up hb)
            have HPV := Lib.hid (h1.1.rowB)
            clear hb
            clear h1
            have hb := (HLIT.out w3).2; have HLZ := Lib.hid (HLIT.out w3).1
            replace HE := Lib.hid (HE.out.up hb); replace HPV := Lib.hid (HPV.out.upE hb)
            clear hb HLIT
            go_wp2_with fail
            refine (HDM.out _ HE.out).mono ?_
            rintro e w4 ⟨qv, rfl, h1, hb⟩
            replace HE := Lib.hid (HE.out.up hb)
            replace HPV := Lib.hid (HPV.out.upE hb)
            replace HLZ := Lib.hid (HLZ.out.upE hb)
            have HQV := Lib.hid (h1.1.rowB)
            clear hb
            clear h1
            go_wp2_with fail
            refine (HCT.out _ _ _ HQV.out HLZ.out).mono ?_
            rintro e w5 ⟨cv, rfl, h1, hb⟩
            replace HE := Lib.hid (HE.out.up hb)
            replace HPV := Lib.hid (HPV.out.upE hb)
            replace HLZ := Lib.hid (HLZ.out.upE hb)
            replace HQV := Lib.hid (HQV.out.upE hb)
            have HCV := Lib.hid (h1.1.rowB)
            clear HLZ
            clear HQV
            clear hb
            clear h1
            go_wp2_with fail
            refine (HSA.out _ _ _ HE.out HPV.out HCV.out).mono ?_
            rintro e w6 ⟨rfl, hb⟩
            replace HE := Lib.hid (HE.out.up hb)
            replace HPV := Lib.hid (HPV.out.upE hb)
            replace HCV := Lib.hid (HCV.out.upE hb)
            clear hb
            go_wp2_with fail
            go_meet
            exact ⟨rfl, HE.out⟩
          case true =>
            go_wp2_with fail
            refine (HDI.out _ HE.out).mono ?_
            rintro e w3 ⟨pv, rfl, h1, hb⟩
            replace HE := Lib.hid (HE.out.up hb)
            have HPV := Lib.hid (h1.1.rowB)
            clear hb
            clear h1
            have hb := (HLIT.out w3).2; have HLZ := Lib.hid (HLIT.out w3).1
            replace HE := Lib.hid (HE.out.up hb); replace HPV := Lib.hid (HPV.out.upE hb)
            clear hb HLIT
            go_wp2_with fail
            refine (HDM.out _ HE.out).mono ?_
            rintro e w4 ⟨qv, rfl, h1, hb⟩
            replace HE := Lib.hid (HE.out.up hb)
            replace HPV := Lib.hid (HPV.out.upE hb)
            replace HLZ := Lib.hid (HLZ.out.upE hb)
            have HQV := Lib.hid (h1.1.rowB)
            clear hb
            clear h1
            go_wp2_with fail
            refine (HCT.out _ _ _ HQV.out HLZ.out).mono ?_
            rintro e w5 ⟨cv, rfl, h1, hb⟩
            replace HE := Lib.hid (HE.out.up hb)
            replace HPV := Lib.hid (HPV.out.upE hb)
            replace HLZ := Lib.hid (HLZ.out.upE hb)
            replace HQV := Lib.hid (HQV.out.upE hb)
            have HCV := Lib.hid (h1.1.rowB)
            clear HLZ
            clear HQV
            clear hb
            clear h1
            go_wp2_with fail
            refine (HSA.out _ _ _ HE.out HPV.out HCV.out).mono ?_
            rintro e w6 ⟨rfl, hb⟩
            replace HE := Lib.hid (HE.out.up hb)
            replace HPV := Lib.hid (HPV.out.upE hb)
            replace HCV := Lib.hid (HCV.out.upE hb)
            clear hb
            go_wp2_with fail
            go_meet
            exact ⟨rfl, HE.out⟩
    case rest =>
      obtain ⟨rfl, he⟩ := hcut
      have HBL := Lib.hid he.bl
      clear HE HDI HDM HCT HSA HSM he hro HA HLA
      go_wp2_with fail
      refine (drawDp_any w.heap.size _ _ len hl (HC.out.below HBL.out) HBL.out.size).mono ?_
      rintro e v1 ⟨xd, vu, md, lu, rfl, hb, h1, h2, h3, h4⟩
      have HA := Lib.hid h2; have HLA := Lib.hid h4; have hro := h3.1.roomy
      have HE := Lib.hid (show Ec w v1 xd vu md lu from ⟨h1.mat, h3.1.rowB, HBL.out.trans (hb.mono HBL.out.size)⟩)
      clear h1 h2 h3 h4 hb HBL
      have HDI := Lib.hid (fun (wx : World) (he : Ec w wx xd vu md lu) => dpi_e xd vu md lu wx he.mx he.ra hro HA.out.fit (by have := HLA.out; omega))
      have HDS := Lib.hid (fun (wx : World) (he : Ec w wx xd vu md lu) => dps_e xd vu md lu wx he.mx he.ra HA.out.fit (by have := HLA.out; omega))
      have HIW := Lib.hid (fun (wx : World) (he : Ec w wx xd vu md lu) => isws_e xd vu md lu wx he.mx he.ra HA.out.fit (by have := HLA.out; omega))
      have HRD := Lib.hid (fun (wx : World) (he : Ec w wx xd vu md lu) => show Calls Try.prog 13 #[xd, vu] wx fun e w' => e = .returned (.bool (redB md lu)) ∧ Below wx.heap.size wx w' from isrd_any _ _ xd vu md lu wx he.mx he.ra (Nat.le_refl _) (Nat.le_refl _) HA.out.fit (by have := HLA.out; omega))
      have HDR := Lib.hid (fun (h : wordB md lu = true) => dl_red (wordB_is' h))
      have HSM := Lib.hid (fun (h : dlB md lu = true) => dl_sam h)
      have HD1 := Lib.hid (fun (wx : World) (he : Ec w wx xd vu md lu) => dels_e vu lu (dlJ md lu) wx he.ra (by have := HLA.out; omega))
      have HD2 := Lib.hid (fun (u : Value) (wx : World) (hu : RowB wx.heap.size wx u (delL lu (dlJ md lu))) => dels_e u _ (dlI md lu) wx hu (by have := delL_le lu (dlJ md lu); have := HLA.out; omega))
      have HSA := Lib.hid (fun (q : Value) (wx : World) (he : Ec w wx xd vu md lu) (hq : RowB wx.heap.size wx q (delL (delL lu (dlJ md lu)) (dlI md lu))) => sami_any _ _ _ xd q vu md _ lu wx he.mx hq he.ra (Nat.le_refl _) (Nat.le_refl _) (Nat.le_refl _) HA.out.fit (by have := delL_le lu (dlJ md lu); have := delL_le (delL lu (dlJ md lu)) (dlI md lu); have := HLA.out; omega) (by have := HLA.out; omega))
      generalize samB md (delL (delL lu (dlJ md lu)) (dlI md lu)) lu = SS at *
      generalize delL (delL lu (dlJ md lu)) (dlI md lu) = L2 at *
      generalize delL lu (dlJ md lu) = L1 at *
      generalize dlI md lu = DI at *
      generalize dlJ md lu = DJ at *
      generalize dlB md lu = DB at *
      generalize redB md lu = R2 at *
      generalize wordB md lu = W2 at *
      have hii : (DI != DI) = false := by simp
      have hjj : (DJ != DJ) = false := by simp
      have hbb : (DB != DB) = false := by simp
      go_wp2_with fail
      refine (HDI.out _ HE.out).mono ?_
      rintro e w101 ⟨rfl, hb⟩
      replace HE := Lib.hid (HE.out.up hb)
      clear hb
      go_wp2_with fail
      refine (HDS.out _ HE.out).mono ?_
      rintro e w102 ⟨rfl, hb⟩
      replace HE := Lib.hid (HE.out.up hb)
      clear hb
      go_upto_region 12 with fail
      go_cut [125] from 101 to 125 (fun s125 wx => s125 = .bool false ∧ Ec w wx xd vu md lu)
      case first =>
        cases W2
        case false =>
          go_wp2_with fail
          refine (HIW.out _ HE.out).mono ?_
          rintro e w103 ⟨rfl, hb⟩
          replace HE := Lib.hid (HE.out.up hb)
          clear hb
          go_wp2_with fail
          go_meet
          exact ⟨rfl, HE.out⟩
        case true =>
          have hdr := HDR.out rfl
          subst hdr
          cases R2
          case false =>
            go_wp2_with fail
            refine (HIW.out _ HE.out).mono ?_
            rintro e w103 ⟨rfl, hb⟩
            replace HE := Lib.hid (HE.out.up hb)
            clear hb
            go_wp2_with fail
            refine (HRD.out _ HE.out).mono ?_
            rintro e w104 ⟨rfl, hb⟩
            replace HE := Lib.hid (HE.out.up hb)
            clear hb
            go_wp2_with fail
            go_meet
            exact ⟨rfl, HE.out⟩
          case true =>
            go_wp2_with fail
            refine (HIW.out _ HE.out).mono ?_
            rintro e w103 ⟨rfl, hb⟩
            replace HE := Lib.hid (HE.out.up hb)
            clear hb
            go_wp2_with fail
            refine (HRD.out _ HE.out).mono ?_
            rintro e w104 ⟨rfl, hb⟩
            replace HE := Lib.hid (HE.out.up hb)
            clear hb
            go_wp2_with fail
            go_meet
            exact ⟨rfl, HE.out⟩
      case rest =>
        obtain ⟨rfl, he⟩ := hcut
        clear HE HDI HDS HIW HRD HDR hii hjj hbb
        have HE := Lib.hid he; clear he
        go_upto_region 14 with fail
        go_cut [137] from 126 to 137 (fun s137 wx => s137 = .bool false ∧ Ec w wx xd vu md lu)
        case first =>
          cases DB
          case false =>
            go_wp2_with fail
            go_meet
            exact ⟨rfl, HE.out⟩
          case true =>
            have hs := HSM.out rfl
            subst hs
            go_wp2_with fail
            refine (HD1.out _ HE.out).mono ?_
            rintro e w103 ⟨pv, rfl, h1, hb⟩
            replace HE := Lib.hid (HE.out.up hb)
            have HPV := Lib.hid (h1.1.rowB)
            clear hb
            clear h1
            go_wp2_with fail
            refine (HD2.out _ _ HPV.out).mono ?_
            rintro e w104 ⟨qv, rfl, h1, hb⟩
            replace HE := Lib.hid (HE.out.up hb)
            replace HPV := Lib.hid (HPV.out.upE hb)
            have HQV := Lib.hid (h1.1.rowB)
            clear HPV
            clear hb
            clear h1
            go_wp2_with fail
            refine (HSA.out _ _ HE.out HQV.out).mono ?_
            rintro e w105 ⟨rfl, hb⟩
            replace HE := Lib.hid (HE.out.up hb)
            replace HQV := Lib.hid (HQV.out.upE hb)
            clear hb
            go_wp2_with fail
            go_meet
            exact ⟨rfl, HE.out⟩
        case rest =>
          obtain ⟨rfl, he⟩ := hcut
          have HBL := Lib.hid he.bl
          clear HE HSM HD1 HD2 HSA he hro HA HLA
          go_wp2_with fail
          refine (drawRd_any w.heap.size _ _ len hl (HC.out.below HBL.out) HBL.out.size).mono ?_
          rintro e u1 ⟨xe, vv, me, le, rfl, hb, h1, h2, h3, h4⟩
          have HA := Lib.hid h2; have HLA := Lib.hid h4; have hro := h3.1.roomy
          have HE := Lib.hid (show Ec w u1 xe vv me le from ⟨h1.mat, h3.1.rowB, HBL.out.trans (hb.mono HBL.out.size)⟩)
          clear h1 h2 h3 h4 hb HBL
          have HRI := Lib.hid (fun (wx : World) (he : Ec w wx xe vv me le) => rbdi_e xe vv me le wx he.mx he.ra hro HA.out.fit (by have := HLA.out; omega))
          have HRS := Lib.hid (fun (wx : World) (he : Ec w wx xe vv me le) => rbds_e xe vv me le wx he.mx he.ra HA.out.fit (by have := HLA.out; omega))
          have HIW := Lib.hid (fun (wx : World) (he : Ec w wx xe vv me le) => isws_e xe vv me le wx he.mx he.ra HA.out.fit (by have := HLA.out; omega))
          have HIR := Lib.hid (fun (y : Value) (wx : World) (he : Ec w wx xe vv me le) (hy : RowB wx.heap.size wx y (rdS me 15 le []).1) => show Calls Try.prog 32 #[xe, y] wx fun e w' => e = .returned (.bool (redB me (rdS me 15 le []).1)) ∧ Below wx.heap.size wx w' from isrdi_any _ _ xe y me _ wx he.mx hy (Nat.le_refl _) (Nat.le_refl _) HA.out.fit (by have := (rdS_len me 15 le []).1; have := HLA.out; omega))
          have HSA := Lib.hid (fun (y : Value) (wx : World) (he : Ec w wx xe vv me le) (hy : RowB wx.heap.size wx y (rdS me 15 le []).1) => sami_any _ _ _ xe vv y me le (rdS me 15 le []).1 wx he.mx he.ra hy (Nat.le_refl _) (Nat.le_refl _) (Nat.le_refl _) HA.out.fit (by have := HLA.out; omega) (by have := (rdS_len me 15 le []).1; have := HLA.out; omega))
          have HOK := Lib.hid (fun (h : wordB me le = true) => rd_sam (wordB_is' h))
          have HL1 := Lib.hid (show (rdS me 15 le []).1.length ≤ maxLen by have := (rdS_len me 15 le []).1; have := HLA.out; unfold maxLen; omega)
          have HL2 := Lib.hid (show (rdS me 15 le []).2.length ≤ maxLen by have := (rdS_len me 15 le []).2; have e0 : ([] : List Int).length = 0 := rfl; unfold maxLen; omega)
          generalize samB me le (rdS me 15 le []).1 = SS at *
          generalize redB me (rdS me 15 le []).1 = R3 at *
          generalize (rdS me 15 le []).1 = X1 at *
          generalize (rdS me 15 le []).2 = X2 at *
          generalize wordB me le = W3 at *
          go_wp2_with fail
          refine (HRI.out _ HE.out).mono ?_
          rintro e w201 ⟨p1, p2, rfl, h1, h2, _, hb⟩
          replace HE := Lib.hid (HE.out.up hb)
          have HP1 := Lib.hid (h1.1.rowB)
          have HP2 := Lib.hid (h2.1.rowB)
          clear hb
          clear h1 h2
          go_wp2_with fail
          refine (HRS.out _ HE.out).mono ?_
          rintro e w202 ⟨q1, q2, rfl, h1, h2, _, hb⟩
          replace HE := Lib.hid (HE.out.up hb)
          replace HP1 := Lib.hid (HP1.out.upE hb)
          replace HP2 := Lib.hid (HP2.out.upE hb)
          have HQ1 := Lib.hid (h1.1.rowB)
          have HQ2 := Lib.hid (h2.1.rowB)
          clear hb
          clear h1 h2 HRI HRS
          go_wp2_with fail
          refine (drawRp_any w.heap.size _ _ len hl (HC.out.below HE.out.bl) HE.out.bl.size).mono ?_
          rintro e w203 ⟨fv, gv, lf, lg, rfl, hb, h1, h2, h3, h4⟩
          replace HE := Lib.hid (HE.out.up hb)
          replace HP1 := Lib.hid (HP1.out.upE hb)
          replace HP2 := Lib.hid (HP2.out.upE hb)
          replace HQ1 := Lib.hid (HQ1.out.upE hb)
          replace HQ2 := Lib.hid (HQ2.out.upE hb)
          have HFV := Lib.hid (h1.1.rowB)
          have HGV := Lib.hid (h3.1.rowB)
          clear hb
          have hrf := h1.1.roomy
          have HYI := Lib.hid (fun (wx : World) (hx : RowB wx.heap.size wx fv lf) (hy : RowB wx.heap.size wx gv lg) => rpyi_e fv gv lf lg wx hx hy hrf (by omega) (by omega))
          have HYS := Lib.hid (fun (wx : World) (hx : RowB wx.heap.size wx fv lf) (hy : RowB wx.heap.size wx gv lg) => rpys_e fv gv lf lg wx hx hy (by omega) (by omega))
          have HL3 := Lib.hid (show (rpL lf lg).length ≤ maxLen by have := rpL_len lf lg; unfold maxLen; omega)
          generalize rpL lf lg = PL at *
          generalize rpB lf lg = PB at *
          have hpb : (PB == PB) = true := by simp
          clear h1 h2 h3 h4 hrf
          go_wp2_with fail
          refine (HYI.out _ HFV.out HGV.out).mono ?_
          rintro e w204 ⟨s1, rfl, h1, hb⟩
          replace HE := Lib.hid (HE.out.up hb)
          replace HP1 := Lib.hid (HP1.out.upE hb)
          replace HP2 := Lib.hid (HP2.out.upE hb)
          replace HQ1 := Lib.hid (HQ1.out.upE hb)
          replace HQ2 := Lib.hid (HQ2.out.upE hb)
          replace HFV := Lib.hid (HFV.out.upE hb)
          replace HGV := Lib.hid (HGV.out.upE hb)
          have HS1 := Lib.hid (h1.1.rowB)
          clear hb
          clear h1
          go_wp2_with fail
          refine (HYS.out _ HFV.out HGV.out).mono ?_
          rintro e w205 ⟨s2, rfl, h1, hb⟩
          replace HE := Lib.hid (HE.out.up hb)
          replace HP1 := Lib.hid (HP1.out.upE hb)
          replace HP2 := Lib.hid (HP2.out.upE hb)
          replace HQ1 := Lib.hid (HQ1.out.upE hb)
          replace HQ2 := Lib.hid (HQ2.out.upE hb)
          replace HFV := Lib.hid (HFV.out.upE hb)
          replace HGV := Lib.hid (HGV.out.upE hb)
          replace HS1 := Lib.hid (HS1.out.upE hb)
          have HS2 := Lib.hid (h1.1.rowB)
          clear HFV
          clear HGV
          clear hb
          clear h1 HYI HYS
          go_wp2_with fail
          refine (drawDa_any a len cap w.heap.size _ hl (HC.out.below HE.out.bl) HE.out.bl.size).mono ?_
          rintro e w206 ⟨hv, lh, nh, rfl, hb, h1, h2⟩
          replace HE := Lib.hid (HE.out.up hb)
          replace HP1 := Lib.hid (HP1.out.upE hb)
          replace HP2 := Lib.hid (HP2.out.upE hb)
          replace HQ1 := Lib.hid (HQ1.out.upE hb)
          replace HQ2 := Lib.hid (HQ2.out.upE hb)
          replace HS1 := Lib.hid (HS1.out.upE hb)
          replace HS2 := Lib.hid (HS2.out.upE hb)
          have HHV := Lib.hid (h1.1.rowB)
          clear hb
          have hrh := h1.1.roomy
          have HTI := Lib.hid (fun (wx : World) (hx : RowB wx.heap.size wx hv lh) => deli_e hv lh nh wx hx hrh (by omega))
          have HTS := Lib.hid (fun (wx : World) (hx : RowB wx.heap.size wx hv lh) => dels_e hv lh nh wx hx (by omega))
          have HL4 := Lib.hid (show (delL lh nh).length ≤ maxLen by have := delL_le lh nh; unfold maxLen; omega)
          generalize delL lh nh = DL at *
          clear h1 h2 hrh
          go_wp2_with fail
          refine (smE_w _ _ X1 _ HP1.out HQ1.out HL1.out).mono ?_
          rintro e w207 ⟨rfl, hb⟩
          replace HE := Lib.hid (HE.out.up hb)
          replace HP1 := Lib.hid (HP1.out.upE hb)
          replace HP2 := Lib.hid (HP2.out.upE hb)
          replace HQ1 := Lib.hid (HQ1.out.upE hb)
          replace HQ2 := Lib.hid (HQ2.out.upE hb)
          replace HS1 := Lib.hid (HS1.out.upE hb)
          replace HS2 := Lib.hid (HS2.out.upE hb)
          replace HHV := Lib.hid (HHV.out.upE hb)
          clear HP1
          clear hb
          go_wp2_with fail
          refine (smE_w _ _ X2 _ HP2.out HQ2.out HL2.out).mono ?_
          rintro e w208 ⟨rfl, hb⟩
          replace HE := Lib.hid (HE.out.up hb)
          replace HP2 := Lib.hid (HP2.out.upE hb)
          replace HQ1 := Lib.hid (HQ1.out.upE hb)
          replace HQ2 := Lib.hid (HQ2.out.upE hb)
          replace HS1 := Lib.hid (HS1.out.upE hb)
          replace HS2 := Lib.hid (HS2.out.upE hb)
          replace HHV := Lib.hid (HHV.out.upE hb)
          clear HP2
          clear HQ2
          clear hb
          go_wp2_with fail
          refine (smE_w _ _ PL _ HS1.out HS2.out HL3.out).mono ?_
          rintro e w209 ⟨rfl, hb⟩
          replace HE := Lib.hid (HE.out.up hb)
          replace HQ1 := Lib.hid (HQ1.out.upE hb)
          replace HS1 := Lib.hid (HS1.out.upE hb)
          replace HS2 := Lib.hid (HS2.out.upE hb)
          replace HHV := Lib.hid (HHV.out.upE hb)
          clear HS1
          clear HS2
          clear hb
          go_wp2_with fail
          refine (HTI.out _ HHV.out).mono ?_
          rintro e w210 ⟨t1, rfl, h1, hb⟩
          replace HE := Lib.hid (HE.out.up hb)
          replace HQ1 := Lib.hid (HQ1.out.upE hb)
          replace HHV := Lib.hid (HHV.out.upE hb)
          have HT1 := Lib.hid (h1.1.rowB)
          clear hb
          clear h1
          go_wp2_with fail
          refine (HTS.out _ HHV.out).mono ?_
          rintro e w211 ⟨t2, rfl, h1, hb⟩
          replace HE := Lib.hid (HE.out.up hb)
          replace HQ1 := Lib.hid (HQ1.out.upE hb)
          replace HHV := Lib.hid (HHV.out.upE hb)
          replace HT1 := Lib.hid (HT1.out.upE hb)
          have HT2 := Lib.hid (h1.1.rowB)
          clear HHV
          clear hb
          clear h1
          go_wp2_with fail
          clear HTI HTS
          refine (smE_w _ _ DL _ HT1.out HT2.out HL4.out).mono ?_
          rintro e w212 ⟨rfl, hb⟩
          replace HE := Lib.hid (HE.out.up hb)
          replace HQ1 := Lib.hid (HQ1.out.upE hb)
          replace HT1 := Lib.hid (HT1.out.upE hb)
          replace HT2 := Lib.hid (HT2.out.upE hb)
          clear HT1
          clear HT2
          clear hb
          go_wp2_with fail
          cases W3
          case false =>
            refine (HIW.out _ HE.out).mono ?_
            rintro e w213 ⟨rfl, hb⟩
            replace HE := Lib.hid (HE.out.up hb)
            replace HQ1 := Lib.hid (HQ1.out.upE hb)
            clear hb
            go_wp2_with fail
            go_ret
            exact ⟨rfl, HE.out.bl⟩
          case true =>
            obtain ⟨ho1, ho2⟩ := HOK.out rfl
            subst ho1; subst ho2
            refine (HIW.out _ HE.out).mono ?_
            rintro e w213 ⟨rfl, hb⟩
            replace HE := Lib.hid (HE.out.up hb)
            replace HQ1 := Lib.hid (HQ1.out.upE hb)
            clear hb
            go_wp2_with fail
            refine (HIR.out _ _ HE.out HQ1.out).mono ?_
            rintro e w214 ⟨rfl, hb⟩
            replace HE := Lib.hid (HE.out.up hb)
            replace HQ1 := Lib.hid (HQ1.out.upE hb)
            clear hb
            go_wp2_with fail
            refine (HSA.out _ _ HE.out HQ1.out).mono ?_
            rintro e w215 ⟨rfl, hb⟩
            replace HE := Lib.hid (HE.out.up hb)
            replace HQ1 := Lib.hid (HQ1.out.upE hb)
            clear hb
            go_wp2_with fail
            go_ret
            exact ⟨rfl, HE.out.bl⟩
end Go.Proofs.Ytbmghddmilgngaa
