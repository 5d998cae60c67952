/-
  Proved here: for every byte slice, the law FnFinite answers true: what is drawn from it is of finite type exactly if all minors are positive, exactly if each part has a name of finite type, and the program says of it what the model says: where the variable partNames holds the names that the program text lays, and MaxLen some number.
  A law that takes bytes: what the argument is, as the draws want it.
-/
import Derived.Test.YtppimgkampkfjaaGreatDoorFfg33
import Derived.ProofKit
import Derived.Test.YtppimgkampkfjaaGreatDoorFfg27
namespace Go.Proofs.YtppimgkampkfjaaGreatDoor
open Go.ChangeShapes Go.WideShapes Go.ChangeAt Go.ChangeMaps Go.RowKit

set_option maxHeartbeats 16000000 in
set_option maxRecDepth 100000 in
theorem ff_law (a : Option Addr) (len cap : Nat) (w : World) (hl : len ≤ 1048576) (hcode : CodeB w.heap.size w (.slice a len cap) len) (htab : NamesIs w namesL) (hmax : MaxIsF w) :
    Calls Tryz.prog 5 #[.slice a len cap] w fun e w' => e = .returned (.bool true) ∧ Below w.heap.size w w' := by
  have HC := Lib.hid hcode; clear hcode
  have HT := Lib.hid htab; clear htab
  have HMX := Lib.hid hmax; clear hmax
  have hbig : decide (1048576 < (len : Int)) = false := by rw [decide_eq_false_iff_not]; omega
  go_enter Tryz.func5, Tryz.ntmps5
  go_wp2_with fail
  refine (big_any _ a len cap (by omega)).mono ?_
  rintro e w0 ⟨rfl, rfl⟩
  have HB := Lib.hid (Below.refl w.heap.size w)
  go_wp2_with fail
  refine (drawWit_any w.heap.size _ _ len hl (HC.out.below HB.out) HB.out.size).mono ?_
  rintro e w1 ⟨x, m, rfl, hb, h1, h2⟩
  replace HB := Lib.hid (HB.out.trans (hb.mono HB.out.size))
  have HX := Lib.hid (h1.mat)
  have HA := Lib.hid (h2)
  clear hb
  go_wp2_with fail
  clear h1 h2
  refine (witi_any _ _ m _ HX.out (Nat.le_refl _) HA.out.fit).mono ?_
  rintro e w2 ⟨y, rfl, h1, hb⟩
  replace HB := Lib.hid (HB.out.trans (hb.mono HB.out.size))
  replace HX := Lib.hid (HX.out.up hb)
  have HW := Lib.hid (h1.rowB)
  clear hb
  obtain ⟨ya, ycap, rfl⟩ := h1.rowB.slice
  clear h1
  go_wp2_with fail
  refine (pmini_any _ _ m _ HX.out (Nat.le_refl _) HA.out.fit).mono ?_
  rintro e w3 ⟨z, rfl, h1, hb⟩
  replace HB := Lib.hid (HB.out.trans (hb.mono HB.out.size))
  replace HX := Lib.hid (HX.out.up hb)
  replace HW := Lib.hid (HW.out.up hb)
  have HM := Lib.hid (h1.rowB)
  clear hb
  obtain ⟨za, zcap, rfl⟩ := h1.rowB.slice
  clear h1
  obtain ⟨s, hs⟩ : ∃ s : ByteArray, s = ⟨(nameO m).toArray⟩ := ⟨_, rfl⟩
  obtain ⟨n, hn⟩ : ∃ n : Nat, sizeO s.data.toList = n := ⟨_, rfl⟩
  have hn4 : n ≤ 1761205026816 := hn ▸ size_small s
  have HS := Lib.hid hs; have HNN := Lib.hid hn; have HSL := Lib.hid (name_size hs)
  have HALL := Lib.hid (fun hI : IsC m => fin_all hI hs hn)
  have hwl := witV_len m
  have hml := minV_len m
  have HDI := Lib.hid (fun (wx : World) (hx : MatB wx.heap.size wx x m) => deti_any _ _ m wx hx (Nat.le_refl _) HA.out.fit)
  have HDS := Lib.hid (fun (wx : World) (hx : MatB wx.heap.size wx x m) => deto_any _ _ m wx hx (Nat.le_refl _) HA.out.fit)
  have HFI := Lib.hid (fun (wx : World) (hx : MatB wx.heap.size wx x m) => fini_any _ _ m wx hx (Nat.le_refl _) HA.out.fit)
  have HFS := Lib.hid (fun (wx : World) (hx : MatB wx.heap.size wx x m) => fins_any _ _ m wx hx (Nat.le_refl _) HA.out.fit)
  have HAI := Lib.hid (fun (wx : World) (hx : MatB wx.heap.size wx x m) => affi_any _ _ m wx hx (Nat.le_refl _) HA.out.fit)
  have HAS := Lib.hid (fun (wx : World) (hx : MatB wx.heap.size wx x m) => affs_any _ _ m wx hx (Nat.le_refl _) HA.out.fit)
  have HWS := Lib.hid (fun (wx : World) (hx : MatB wx.heap.size wx x m) => wits_any _ _ m wx hx (Nat.le_refl _) HA.out.fit)
  have HPS := Lib.hid (fun (wx : World) (hx : MatB wx.heap.size wx x m) => pmin_any _ _ m wx hx (Nat.le_refl _) HA.out.fit)
  clear hs hn
  generalize affB (connB (partsV m).length) (minV m) = ab at *
  generalize detV m = dv at *
  generalize finB m = fb at *
  generalize hwv : witV m = wv at *
  generalize hwn : wv.length = wn at *
  generalize hmv : minV m = mv at *
  generalize hmn : mv.length = mn at *
  have HWN := Lib.hid hwn; have HMN := Lib.hid hmn
  clear hwv hwn hmv hmn
  have hdd : (dv != dv) = false := by simp
  have haa : (ab != ab) = false := by simp
  have hff : (fb != fb) = false := by simp
  go_wp2_with fail
  refine (HWS.out _ HX.out).mono ?_
  rintro e w4 ⟨y2, rfl, h1, hb⟩
  replace HB := Lib.hid (HB.out.trans (hb.mono HB.out.size))
  replace HX := Lib.hid (HX.out.up hb)
  replace HW := Lib.hid (HW.out.up hb)
  replace HM := Lib.hid (HM.out.up hb)
  have H1 := Lib.hid (h1.rowB)
  clear hb
  go_wp2_with fail
  clear h1
  refine (smS_same _ _ wv _ HW.out H1.out (by rw [HWN.out]; unfold maxLen; omega)).mono ?_
  rintro e w5 ⟨rfl, hb⟩
  replace HB := Lib.hid (HB.out.trans (hb.mono HB.out.size))
  replace HX := Lib.hid (HX.out.up hb)
  replace HW := Lib.hid (HW.out.up hb)
  replace HM := Lib.hid (HM.out.up hb)
  clear hb
  go_wp2_with fail
  clear H1
  refine (HPS.out _ HX.out).mono ?_
  rintro e w6 ⟨y3, rfl, h1, hb⟩
  replace HB := Lib.hid (HB.out.trans (hb.mono HB.out.size))
  replace HX := Lib.hid (HX.out.up hb)
  replace HW := Lib.hid (HW.out.up hb)
  replace HM := Lib.hid (HM.out.up hb)
  have H1 := Lib.hid (h1.rowB)
  clear hb
  go_wp2_with fail
  clear h1
  refine (smS_same _ _ mv _ HM.out H1.out (by rw [HMN.out]; unfold maxLen; omega)).mono ?_
  rintro e w7 ⟨rfl, hb⟩
  replace HB := Lib.hid (HB.out.trans (hb.mono HB.out.size))
  replace HX := Lib.hid (HX.out.up hb)
  replace HW := Lib.hid (HW.out.up hb)
  replace HM := Lib.hid (HM.out.up hb)
  clear hb
  go_wp2_with fail
  clear H1
  refine (HDI.out _ HX.out).mono ?_
  rintro e w8 ⟨rfl, hb⟩
  replace HB := Lib.hid (HB.out.trans (hb.mono HB.out.size))
  replace HX := Lib.hid (HX.out.up hb)
  replace HW := Lib.hid (HW.out.up hb)
  replace HM := Lib.hid (HM.out.up hb)
  clear hb
  go_wp2_with fail
  refine (HDS.out _ HX.out).mono ?_
  rintro e w9 ⟨rfl, hb⟩
  replace HB := Lib.hid (HB.out.trans (hb.mono HB.out.size))
  replace HX := Lib.hid (HX.out.up hb)
  replace HW := Lib.hid (HW.out.up hb)
  replace HM := Lib.hid (HM.out.up hb)
  clear hb
  go_wp2_with fail
  refine (HFI.out _ HX.out).mono ?_
  rintro e w10 ⟨rfl, hb⟩
  replace HB := Lib.hid (HB.out.trans (hb.mono HB.out.size))
  replace HX := Lib.hid (HX.out.up hb)
  replace HW := Lib.hid (HW.out.up hb)
  replace HM := Lib.hid (HM.out.up hb)
  clear hb
  go_wp2_with fail
  refine (HFS.out _ HX.out).mono ?_
  rintro e w11 ⟨rfl, hb⟩
  replace HB := Lib.hid (HB.out.trans (hb.mono HB.out.size))
  replace HX := Lib.hid (HX.out.up hb)
  replace HW := Lib.hid (HW.out.up hb)
  replace HM := Lib.hid (HM.out.up hb)
  clear hb
  go_wp2_with fail
  refine (HAI.out _ HX.out).mono ?_
  rintro e w12 ⟨rfl, hb⟩
  replace HB := Lib.hid (HB.out.trans (hb.mono HB.out.size))
  replace HX := Lib.hid (HX.out.up hb)
  replace HW := Lib.hid (HW.out.up hb)
  replace HM := Lib.hid (HM.out.up hb)
  clear hb
  go_wp2_with fail
  refine (HAS.out _ HX.out).mono ?_
  rintro e w13 ⟨rfl, hb⟩
  replace HB := Lib.hid (HB.out.trans (hb.mono HB.out.size))
  replace HX := Lib.hid (HX.out.up hb)
  replace HW := Lib.hid (HW.out.up hb)
  replace HM := Lib.hid (HM.out.up hb)
  clear hb
  go_wp2_with fail
  refine (nmoi_e _ m s HS.out _ HX.out HA.out.fit (NamesIs.below HT.out HB.out)).mono ?_
  rintro e w14 ⟨rfl, hb⟩
  replace HB := Lib.hid (HB.out.trans (hb.mono HB.out.size))
  replace HX := Lib.hid (HX.out.up hb)
  replace HW := Lib.hid (HW.out.up hb)
  replace HM := Lib.hid (HM.out.up hb)
  clear hb
  go_wp2_with fail
  refine (nmo_e _ m s HS.out _ HX.out HA.out.fit).mono ?_
  rintro e w15 ⟨rfl, hb⟩
  replace HB := Lib.hid (HB.out.trans (hb.mono HB.out.size))
  replace HX := Lib.hid (HX.out.up hb)
  replace HW := Lib.hid (HW.out.up hb)
  replace HM := Lib.hid (HM.out.up hb)
  clear hb
  go_wp2_with fail
  clear HDI HDS HFS HAI HAS HWS HPS
  by_cases hI : IsC m
  case neg =>
    have HIS := Lib.hid (isc_w _ _ m false (isB_no hI) _ HX.out HA.out.fit)
    clear hI HALL HFI HW HM
    refine (HIS.out).mono ?_
    rintro e w16 ⟨rfl, hb⟩
    replace HB := Lib.hid (HB.out.trans (hb.mono HB.out.size))
    clear hb
    go_wp2_with fail
    clear HIS HX HSL HNN HS HMN HWN hff haa hdd
    refine (drawNmp_any w.heap.size _ _ len hl (HC.out.below HB.out) HB.out.size).mono ?_
    rintro e w17 ⟨x5, d, rfl, hb, h1, h2⟩
    replace HB := Lib.hid (HB.out.trans (hb.mono HB.out.size))
    have HD := Lib.hid (h1.mat)
    have HDA := Lib.hid (h2)
    clear hb
    go_wp2_with fail
    clear h1 h2
    refine (drawSbn_any w.heap.size _ _ len hl (HC.out.below HB.out) HB.out.size).mono ?_
    rintro e w18 ⟨t, ht, rfl, hb⟩
    replace HB := Lib.hid (HB.out.trans (hb.mono HB.out.size))
    replace HD := Lib.hid (HD.out.up hb)
    clear hb
    obtain ⟨s2, hs2⟩ : ∃ s : ByteArray, s = ⟨(nameP d).toArray⟩ := ⟨_, rfl⟩
    obtain ⟨n2, hn2⟩ : ∃ n : Nat, sizeO t.data.toList = n := ⟨_, rfl⟩
    have hn24 : n2 ≤ 1761205026816 := hn2 ▸ size_small t
    have HS2 := Lib.hid hs2; have HN2 := Lib.hid hn2
    have HTS := Lib.hid (show t.size ≤ 1048576 by omega)
    clear hs2 hn2 ht
    have hnn2 : ((n2 : Int) == n2) = true := by simp
    go_wp2_with fail
    refine (nmpi_e _ d s2 HS2.out _ HD.out HDA.out.fit (NamesIs.below HT.out HB.out)).mono ?_
    rintro e w19 ⟨rfl, hb⟩
    replace HB := Lib.hid (HB.out.trans (hb.mono HB.out.size))
    replace HD := Lib.hid (HD.out.up hb)
    clear hb
    go_wp2_with fail
    refine (nmp_e _ d s2 HS2.out _ HD.out HDA.out.fit).mono ?_
    rintro e w20 ⟨rfl, hb⟩
    replace HB := Lib.hid (HB.out.trans (hb.mono HB.out.size))
    clear hb
    go_wp2_with fail
    refine (szi_f t n2 HN2.out _ HTS.out (MaxIsF.below HMX.out HB.out)).mono ?_
    rintro e w21 ⟨rfl, hb⟩
    replace HB := Lib.hid (HB.out.trans (hb.mono HB.out.size))
    clear hb
    go_wp2_with fail
    refine (szs_f t n2 HN2.out _ HTS.out).mono ?_
    rintro e w22 ⟨rfl, hb⟩
    replace HB := Lib.hid (HB.out.trans (hb.mono HB.out.size))
    clear hb
    go_wp2_with fail
    go_ret
    exact ⟨rfl, HB.out⟩
  case pos =>
    have HIS := Lib.hid (isc_w _ _ m true (isB_yes hI) _ HX.out HA.out.fit)
    obtain ⟨hp1, hp2, hp3, hp4⟩ := HALL.out hI
    have HP1 := Lib.hid hp1; have HP2 := Lib.hid hp2; have HP3 := Lib.hid hp3; have HP4 := Lib.hid hp4
    have HTA := Lib.hid (fit_of_small (sq_small (isC_sq (tr_isC hI).1)))
    clear hp1 hp2 hp3 hp4 HALL hI
    refine (HIS.out).mono ?_
    rintro e w16 ⟨rfl, hb⟩
    replace HB := Lib.hid (HB.out.trans (hb.mono HB.out.size))
    replace HX := Lib.hid (HX.out.up hb)
    replace HW := Lib.hid (HW.out.up hb)
    replace HM := Lib.hid (HM.out.up hb)
    clear hb
    go_wp2_with fail
    clear HIS
    go_loopw [6, 7] (fun p i wr => ∃ (k : Nat) (wq : World), wq = wr ∧ k ≤ mn ∧ i = .int .i64 k ∧ p = .bool (posK mv k) ∧ Below w16.heap.size w16 wq) (fun _ i _ => mn - (intOf i).toNat)
    case atStart => exact ⟨0, _, rfl, Nat.zero_le _, rfl, rfl, Below.refl _ _⟩
    case round =>
      obtain ⟨k, wq, rfl, hk, rfl, rfl, hb⟩ := hrel
      have HBK := Lib.hid hb; clear hb
      by_cases hlt : k < mn
      · have hlt1 : decide (k < mn) = true := decide_eq_true hlt
        obtain ⟨b1, off1, hkl, rfl, hb1, hc1⟩ := (HM.out.below HBK.out (Nat.le_refl _)).get hlt
        have HPS := Lib.hid (posK_succ hkl)
        generalize mv[k] = xk at *
        generalize posK mv k = pk at *
        cases pk
        all_goals
          go_wp2_with fail
          exact ⟨⟨k + 1, _, rfl, by omega, by go_num, by rw [HPS.out]; simp, HBK.out⟩, by simp [intOf]; omega⟩
      · obtain rfl : k = mn := by omega
        have hlt1 : decide (k < k) = false := by simp
        rw [HP1.out]
        have HBZ := Lib.hid (HB.out.trans (HBK.out.mono HB.out.size))
        replace HB := HBZ
        replace HX := Lib.hid (HX.out.up HBK.out)
        clear HBZ HBK HM HW HP1
        have hq1 := HP2.out; have hq2 := HP3.out
        have HTI := Lib.hid (fun (B : Nat) (v : Value) (wx : World) (h : MatB B wx v (trM m)) (hB : B ≤ wx.heap.size) => fini_any B v (trM m) wx h hB HTA.out)
        rw [HP4.out] at HTI
        clear HP2 HP3 HP4 HTA
        cases fb
        case' false =>
          have hn0 : n = 0 := by simp at hq2; omega
          have hw0 : ((wn : Int) == 0) = false := by rw [beq_eq_false_iff_ne]; simp at hq1; omega
          have hnn : decide (0 < n) = false := by rw [hn0]; rfl
          subst hn0
          have hn0 := trivial
        case' true =>
          have hn0 : 0 < n := by simp at hq2; omega
          have hw0 : ((wn : Int) == 0) = true := by rw [beq_iff_eq]; simp at hq1; omega
          have hnn : decide (0 < n) = true := decide_eq_true hn0
        all_goals
          clear hq1 hq2 hff
          go_wp2_with fail
          refine (nmoi_e _ m s HS.out _ HX.out HA.out.fit (NamesIs.below HT.out HB.out)).mono ?_
          rintro e w17 ⟨rfl, hb⟩
          replace HB := Lib.hid (HB.out.trans (hb.mono HB.out.size))
          replace HX := Lib.hid (HX.out.up hb)
          clear hb
          go_wp2_with fail
          refine (szi_f s _ HNN.out _ HSL.out (MaxIsF.below HMX.out HB.out)).mono ?_
          rintro e w18 ⟨rfl, hb⟩
          replace HB := Lib.hid (HB.out.trans (hb.mono HB.out.size))
          replace HX := Lib.hid (HX.out.up hb)
          clear hb
          go_wp2_with fail
          refine (HFI.out _ HX.out).mono ?_
          rintro e w19 ⟨rfl, hb⟩
          replace HB := Lib.hid (HB.out.trans (hb.mono HB.out.size))
          replace HX := Lib.hid (HX.out.up hb)
          clear hb
          go_wp2_with fail
          refine (trs_any _ _ m _ HX.out (Nat.le_refl _) HA.out.fit).mono ?_
          rintro e w20 ⟨y5, rfl, h1, hb⟩
          replace HB := Lib.hid (HB.out.trans (hb.mono HB.out.size))
          have H1 := Lib.hid (h1.matB)
          clear hb
          go_wp2_with fail
          clear h1
          refine (HTI.out _ _ _ H1.out (Nat.le_refl _)).mono ?_
          rintro e w21 ⟨rfl, hb⟩
          replace HB := Lib.hid (HB.out.trans (hb.mono HB.out.size))
          clear hb
          go_wp2_with fail
          clear HX H1 HTI HFI HSL HNN HS HMN HWN haa hdd hw0 hnn
          refine (drawNmp_any w.heap.size _ _ len hl (HC.out.below HB.out) HB.out.size).mono ?_
          rintro e w22 ⟨x5, d, rfl, hb, h1, h2⟩
          replace HB := Lib.hid (HB.out.trans (hb.mono HB.out.size))
          have HD := Lib.hid (h1.mat)
          have HDA := Lib.hid (h2)
          clear hb
          go_wp2_with fail
          clear h1 h2
          refine (drawSbn_any w.heap.size _ _ len hl (HC.out.below HB.out) HB.out.size).mono ?_
          rintro e w23 ⟨t, ht, rfl, hb⟩
          replace HB := Lib.hid (HB.out.trans (hb.mono HB.out.size))
          replace HD := Lib.hid (HD.out.up hb)
          clear hb
          obtain ⟨s2, hs2⟩ : ∃ s : ByteArray, s = ⟨(nameP d).toArray⟩ := ⟨_, rfl⟩
          obtain ⟨n2, hn2⟩ : ∃ n : Nat, sizeO t.data.toList = n := ⟨_, rfl⟩
          have hn24 : n2 ≤ 1761205026816 := hn2 ▸ size_small t
          have HS2 := Lib.hid hs2; have HN2 := Lib.hid hn2
          have HTS := Lib.hid (show t.size ≤ 1048576 by omega)
          clear hs2 hn2 ht
          have hnn2 : ((n2 : Int) == n2) = true := by simp
          go_wp2_with fail
          refine (nmpi_e _ d s2 HS2.out _ HD.out HDA.out.fit (NamesIs.below HT.out HB.out)).mono ?_
          rintro e w24 ⟨rfl, hb⟩
          replace HB := Lib.hid (HB.out.trans (hb.mono HB.out.size))
          replace HD := Lib.hid (HD.out.up hb)
          clear hb
          go_wp2_with fail
          refine (nmp_e _ d s2 HS2.out _ HD.out HDA.out.fit).mono ?_
          rintro e w25 ⟨rfl, hb⟩
          replace HB := Lib.hid (HB.out.trans (hb.mono HB.out.size))
          clear hb
          go_wp2_with fail
          refine (szi_f t n2 HN2.out _ HTS.out (MaxIsF.below HMX.out HB.out)).mono ?_
          rintro e w26 ⟨rfl, hb⟩
          replace HB := Lib.hid (HB.out.trans (hb.mono HB.out.size))
          clear hb
          go_wp2_with fail
          refine (szs_f t n2 HN2.out _ HTS.out).mono ?_
          rintro e w27 ⟨rfl, hb⟩
          replace HB := Lib.hid (HB.out.trans (hb.mono HB.out.size))
          clear hb
          go_wp2_with fail
          go_ret
          exact ⟨rfl, HB.out⟩
end Go.Proofs.YtppimgkampkfjaaGreatDoor
namespace Go.Proofs.YtppimgkampkfjaaGreatDoor
open Go.ChangeShapes Go.WideShapes Go.ChangeAt Go.ChangeMaps Go.RowKit

set_option maxRecDepth 100000 in
theorem code_open {H : Type} {enc : TypeId × Value → H} {W : World} {base : Nat} {v : Value} {d : DataW H} {ps : List MemPlace} (hval : Value.okWide Tryz.prog W .any base 22 v)
    (h : DataW.Trod enc Tryz.prog W 0 (fun _ => true) true 22 v d ps) : ∃ (a : Option Addr) (len cap : Nat), v = .slice a len cap ∧ len ≤ maxLen ∧ CodeB W.heap.size W v len := by
  obtain ⟨a0, len, cap, rfl⟩ := okWide_slice Tryz.underlying22 hval
  obtain ⟨fuel, hf⟩ := h
  have hc1 : Tryz.prog.cellsOf 5 = 1 := by kernel_rfl
  rcases open_ints Tryz.underlying22 Tryz.underlying5 hc1 hf with ⟨hcs, _⟩ | ⟨a, len', cap', zs, hcs, _, hl, hm, hz, _, hcell, hwz⟩
  · simp [Value.cells] at hcs
    obtain ⟨rfl, rfl, rfl⟩ := hcs
    exact ⟨none, 0, 0, rfl, Nat.zero_le _, Or.inl ⟨⟨none, 0, rfl⟩, rfl⟩⟩
  · simp [Value.cells] at hcs
    obtain ⟨rfl, rfl, rfl⟩ := hcs
    simp only [if_true] at hz
    refine ⟨some a, len, cap, rfl, by omega, ?_⟩
    by_cases hl0 : len = 0
    · subst hl0
      exact Or.inl ⟨⟨some a, cap, rfl⟩, rfl⟩
    · obtain ⟨b, off, spot⟩ := a
      have hspot : spot = none := by simpa [Addr.add] using World.cell?_spot (hcell 0 (by omega))
      subst hspot
      have hb : b < W.heap.size := by
        have h0 := hcell 0 (by omega)
        have := World.block_lt_of_cell? W _ h0
        simpa [Addr.add] using this
      refine Or.inr ⟨b, off, cap, rfl, hb, fun j hj => ?_⟩
      have hj' : j < zs.length := by omega
      have hcj := hcell j hj'
      have hadd : (⟨b, off, none⟩ : Addr).add j = ⟨b, off + j, none⟩ := by unfold Addr.add; split <;> simp_all
      rw [hadd] at hcj
      have hw := hwz (zs.getD j 0) (by
        rw [List.getD_eq_getElem?_getD, List.getElem?_eq_getElem hj']
        exact List.getElem_mem _)
      have hr : 0 ≤ zs.getD j 0 ∧ zs.getD j 0 ≤ 255 := by
        have h' : IntKind.u8.min ≤ zs.getD j 0 ∧ zs.getD j 0 ≤ IntKind.u8.max := by simpa [Lit.wf] using hw
        have h1 : IntKind.u8.max = 255 := by decide
        have h2 : IntKind.u8.min = 0 := by decide
        omega
      refine ⟨UInt8.ofNat (zs.getD j 0).toNat, ?_⟩
      rw [hcj, UInt8.toNat_ofNat']
      congr 2
      omega
end Go.Proofs.YtppimgkampkfjaaGreatDoor
