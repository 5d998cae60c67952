/-
  Proved here: for every byte slice, the law FnWeights answers true: weights drawn from it are reflected as the model does, twice is once undone, reflections satisfy the braid relation of their bond, and weights are read back from their texts: where the library's table of powers of ten holds its numbers.
-/
import Derived.Test.YtfjeghalkmkgoaaGreatDoorFW42
namespace Go.Proofs.YtfjeghalkmkgoaaGreatDoor
open Go.ChangeShapes Go.WideShapes Go.ChangeAt Go.ChangeMaps Go.RowKit

set_option maxHeartbeats 32000000 in
set_option maxRecDepth 100000 in
theorem fwt_law (ca : Option Addr) (len ccap : Nat) (w : World) (hl : len ≤ 1048576) (hcode : CodeB w.heap.size w (.slice ca len ccap) len) (hpow : Lib.TabIs Tryz.prog w "internal/strconv.uint64pow10" .u64 Lib.pow10Tab) :
    Calls Tryz.prog 3 #[.slice ca len ccap] w fun e w' => e = .returned (.bool true) ∧ Below w.heap.size w w' := by
  have HC := Lib.hid hcode; clear hcode
  have HTB := Lib.hid hpow; clear hpow
  have hbig : decide (1048576 < (len : Int)) = false := by rw [decide_eq_false_iff_not]; omega
  go_enter Tryz.func3, Tryz.ntmps3
  go_wp2_with fail
  refine (big_w _ ca len ccap (by omega)).mono ?_
  rintro e w0 ⟨rfl, rfl⟩
  have HB := Lib.hid (Below.refl w.heap.size w)
  go_wp2_with fail
  refine (drawRf_any w.heap.size _ _ len hl (HC.out.below HB.out) HB.out.size).mono ?_
  rintro e w1 ⟨x, y, m, l, ii, rfl, hb, h1, h2, h3, h4, h5⟩
  replace HB := Lib.hid (HB.out.trans (hb.mono HB.out.size))
  have HX := Lib.hid (h1)
  have HA := Lib.hid (h2)
  have HY := Lib.hid (h3)
  have HLL := Lib.hid (h4)
  have HFT := Lib.hid (h5)
  clear hb
  obtain ⟨xa, xcap, rfl⟩ := h1.slice
  obtain ⟨ya, ycap, rfl⟩ := h3.slice
  clear h1 h2 h3 h4 h5
  have HLM := Lib.hid (show l.length ≤ maxLen by have := HLL.out; unfold maxLen; omega)
  have HL1 := Lib.hid (show l.length ≤ 1048576 by have := HLL.out; omega)
  have HRI := Lib.hid (fun (wx : World) (hx : MatB wx.heap.size wx (.slice xa m.length xcap) m) (hy : RowB wx.heap.size wx (.slice ya l.length ycap) l) => refi_any _ _ _ _ m l ii wx hx hy (Nat.le_refl _) (Nat.le_refl _) HA.out.fit HL1.out)
  have HRS := Lib.hid (fun (wx : World) (hx : MatB wx.heap.size wx (.slice xa m.length xcap) m) (hy : RowB wx.heap.size wx (.slice ya l.length ycap) l) => refs_any _ _ _ _ m l ii wx hx hy (Nat.le_refl _) (Nat.le_refl _) HA.out.fit HL1.out)
  have HR2 := Lib.hid (fun (v : Value) (wx : World) (hx : MatB wx.heap.size wx (.slice xa m.length xcap) m) (hy : RowB wx.heap.size wx v (refwL m ii l)) => refi_any _ _ _ v m (refwL m ii l) ii wx hx hy (Nat.le_refl _) (Nat.le_refl _) HA.out.fit (by rw [refwL_len]; exact HL1.out))
  rw [refl_twice (fun t _ => HFT.out.getD t)] at HR2
  have HRL := Lib.hid (show (refwL m ii l).length ≤ maxLen by rw [refwL_len]; exact HLM.out)
  have HII := Lib.hid (fun (wx : World) (hx : MatB wx.heap.size wx (.slice xa m.length xcap) m) (hy : RowB wx.heap.size wx (.slice ya l.length ycap) l) => iswti_b _ _ _ _ m l wx hx hy HA.out.fit HLM.out)
  have HIS := Lib.hid (fun (wx : World) (hx : MatB wx.heap.size wx (.slice xa m.length xcap) m) (hy : RowB wx.heap.size wx (.slice ya l.length ycap) l) => iswts_b _ _ _ _ m l wx hx hy HA.out.fit HLM.out)
  obtain ⟨fs, hfsv⟩ : ∃ s : ByteArray, s = ⟨(rowT l).toArray⟩ := ⟨_, rfl⟩
  have HFI := Lib.hid (fun (wx : World) (hy : RowB wx.heap.size wx (.slice ya l.length ycap) l) (ht : Lib.TabIs Tryz.prog wx "internal/strconv.uint64pow10" .u64 Lib.pow10Tab) => fmtwi_any _ _ l wx hy (Nat.le_refl _) HL1.out HFT.out ht)
  have HFS := Lib.hid (fun (wx : World) (hy : RowB wx.heap.size wx (.slice ya l.length ycap) l) => fmtws_any _ _ l wx hy (Nat.le_refl _) (Nat.le_succ_of_le HL1.out) HFT.out)
  have HPI := Lib.hid (fun (wx : World) (hx : MatB wx.heap.size wx (.slice xa m.length xcap) m) (ht : Lib.TabIs Tryz.prog wx "internal/strconv.uint64pow10" .u64 Lib.pow10Tab) => pwti_any _ _ m fs wx hx (Nat.le_refl _) HA.out.fit (by rw [hfsv, ba_list]; have := rowT_short HFT.out HLL.out; omega) ht)
  have hfl : fs.data.toList = rowT l := by rw [hfsv]
  rw [hfl, (pwt_fmt m l).1] at HPI
  have HZL := Lib.hid (pwt_fmt m l).2
  rw [← hfsv] at HFI HFS
  clear hfl hfsv
  have HBR := Lib.hid (fun (hI : IsC m) (hll : l.length = m.length) (j k : Nat) (hj : j < m.length) (hk : k < m.length) (hb : 0 < bond m j k) => braid_law hI hll HFT.out hj hk hb)
  have HISC := Lib.hid (fun c (hc : isB m = c) (wx : World) (hx : MatB wx.heap.size wx (.slice xa m.length xcap) m) => isc_w _ _ m c hc wx hx HA.out.fit)
  have HAI := Lib.hid (fun (ws : List Int) (hws : ws.length ≤ 15) (v : Value) (wx : World) (hx : MatB wx.heap.size wx (.slice xa m.length xcap) m) (hv : RowB wx.heap.size wx v ws) (hy : RowB wx.heap.size wx (.slice ya l.length ycap) l) => acti_any _ _ _ _ v _ m ws l wx hx hv hy (Nat.le_refl _) (Nat.le_refl _) (Nat.le_refl _) HA.out.fit (by omega) HL1.out)
  have HBO := Lib.hid (fun (j k : Int) (wx : World) (hx : MatB wx.heap.size wx (.slice xa m.length xcap) m) => bonds_b _ _ m j k wx hx HA.out.fit)
  have hn5 := HA.out.1
  have hl6 := HLL.out
  generalize wtB m l = wb at *
  generalize pwtL m (rowT l) = zl at *
  generalize refwL m ii l = rl at *
  generalize hn : m.length = n at *
  generalize hn2 : l.length = n2 at *
  have HN := Lib.hid hn; have HN2 := Lib.hid hn2
  clear hn hn2
  have hwb : (wb != wb) = false := by simp
  go_wp2_with fail
  refine (HRI.out _ HX.out HY.out).mono ?_
  rintro e w2 ⟨z0, rfl, h1, hb⟩
  replace HB := Lib.hid (HB.out.trans (hb.mono HB.out.size))
  replace HX := Lib.hid (HX.out.upW hb)
  replace HY := Lib.hid (HY.out.upW hb)
  have HV := Lib.hid (h1.1.rowB)
  clear hb
  go_wp2_with fail
  clear h1
  refine (HRS.out _ HX.out HY.out).mono ?_
  rintro e w3 ⟨z1, rfl, h1, hb⟩
  replace HB := Lib.hid (HB.out.trans (hb.mono HB.out.size))
  replace HX := Lib.hid (HX.out.upW hb)
  replace HY := Lib.hid (HY.out.upW hb)
  replace HV := Lib.hid (HV.out.upW hb)
  have HV1 := Lib.hid (h1.1.rowB)
  clear hb
  go_wp2_with fail
  clear h1
  refine (smS_w _ _ rl _ HV.out HV1.out HRL.out).mono ?_
  rintro e w4 ⟨rfl, hb⟩
  replace HB := Lib.hid (HB.out.trans (hb.mono HB.out.size))
  replace HX := Lib.hid (HX.out.upW hb)
  replace HY := Lib.hid (HY.out.upW hb)
  replace HV := Lib.hid (HV.out.upW hb)
  clear hb
  go_wp2_with fail
  clear HV1
  refine (HR2.out _ _ HX.out HV.out).mono ?_
  rintro e w5 ⟨z2, rfl, h1, hb⟩
  replace HB := Lib.hid (HB.out.trans (hb.mono HB.out.size))
  replace HX := Lib.hid (HX.out.upW hb)
  replace HY := Lib.hid (HY.out.upW hb)
  have HV2 := Lib.hid (h1.1.rowB)
  clear hb
  go_wp2_with fail
  clear h1 HV
  refine (smS_w _ _ l _ HV2.out HY.out (by rw [HN2.out]; exact HLM.out)).mono ?_
  rintro e w6 ⟨rfl, hb⟩
  replace HB := Lib.hid (HB.out.trans (hb.mono HB.out.size))
  replace HX := Lib.hid (HX.out.upW hb)
  replace HY := Lib.hid (HY.out.upW hb)
  clear hb
  go_wp2_with fail
  clear HV2 HRI HRS HR2 HRL
  refine (HII.out _ HX.out HY.out).mono ?_
  rintro e w7 ⟨rfl, hb⟩
  replace HB := Lib.hid (HB.out.trans (hb.mono HB.out.size))
  replace HX := Lib.hid (HX.out.upW hb)
  replace HY := Lib.hid (HY.out.upW hb)
  clear hb
  go_wp2_with fail
  refine (HIS.out _ HX.out HY.out).mono ?_
  rintro e w8 ⟨rfl, hb⟩
  replace HB := Lib.hid (HB.out.trans (hb.mono HB.out.size))
  replace HX := Lib.hid (HX.out.upW hb)
  replace HY := Lib.hid (HY.out.upW hb)
  clear hb
  go_wp2_with fail
  have HCS := Lib.hid (show (isB m = false) ∨ (IsC m ∧ n2 ≠ n) ∨ (IsC m ∧ n2 = n ∧ n ≤ 1) ∨ (IsC m ∧ n2 = n ∧ 1 < n) from by
    by_cases hI : IsC m
    · by_cases h1 : n2 = n
      · by_cases h2 : 1 < n
        · exact .inr (.inr (.inr ⟨hI, h1, h2⟩))
        · exact .inr (.inr (.inl ⟨hI, h1, by omega⟩))
      · exact .inr (.inl ⟨hI, h1⟩)
    · exact .inl (isB_no hI))
  rcases HCS.out with hI | ⟨hI, h1⟩ | ⟨hI, h1, h2⟩ | ⟨hI, h1, h2⟩
  · have HC1 := Lib.hid (HISC.out false hI)
    clear hI HCS HISC HAI HBR HBO hwb
    refine (HC1.out _ HX.out).mono ?_
    rintro e w9 ⟨rfl, hb⟩
    replace HB := Lib.hid (HB.out.trans (hb.mono HB.out.size))
    replace HX := Lib.hid (HX.out.upW hb)
    replace HY := Lib.hid (HY.out.upW hb)
    clear hb
    go_wp2_with fail
    clear HC1
    refine (drawAc_any w.heap.size _ _ len hl (HC.out.below HB.out) HB.out.size).mono ?_
    rintro e w10 ⟨xd, zw, yu, md, wsd, ld, rfl, hb, h1, h2, h3, h4, h5, h6⟩
    replace HB := Lib.hid (HB.out.trans (hb.mono HB.out.size))
    replace HX := Lib.hid (HX.out.upW hb)
    replace HY := Lib.hid (HY.out.upW hb)
    have HD := Lib.hid (h1)
    have HDA := Lib.hid (h2)
    have HW := Lib.hid (h3)
    have HWL := Lib.hid (h4)
    have HU := Lib.hid (h5)
    have HUL := Lib.hid (h6)
    clear hb
    go_wp2_with fail
    clear h1 h2 h3 h4 h5 h6
    refine (HFI.out _ HY.out (tab_below HTB.out HB.out)).mono ?_
    rintro e w11 ⟨rfl, hb⟩
    replace HB := Lib.hid (HB.out.trans (hb.mono HB.out.size))
    replace HX := Lib.hid (HX.out.upW hb)
    replace HY := Lib.hid (HY.out.upW hb)
    replace HD := Lib.hid (HD.out.upW hb)
    replace HW := Lib.hid (HW.out.upW hb)
    replace HU := Lib.hid (HU.out.upW hb)
    clear hb
    go_wp2_with fail
    refine (HPI.out _ HX.out (tab_below HTB.out HB.out)).mono ?_
    rintro e w12 ⟨z, rfl, h1, hb⟩
    replace HB := Lib.hid (HB.out.trans (hb.mono HB.out.size))
    replace HX := Lib.hid (HX.out.upW hb)
    replace HY := Lib.hid (HY.out.upW hb)
    replace HD := Lib.hid (HD.out.upW hb)
    replace HW := Lib.hid (HW.out.upW hb)
    replace HU := Lib.hid (HU.out.upW hb)
    have HZ := Lib.hid (h1.1.rowB)
    clear hb
    go_wp2_with fail
    clear h1 HFI HPI
    refine (drawPwt_any w.heap.size _ _ len hl (HC.out.below HB.out) HB.out.size).mono ?_
    rintro e w13 ⟨xe, me, ts, rfl, hb, h1, h2, h3⟩
    replace HB := Lib.hid (HB.out.trans (hb.mono HB.out.size))
    replace HX := Lib.hid (HX.out.upW hb)
    replace HY := Lib.hid (HY.out.upW hb)
    replace HD := Lib.hid (HD.out.upW hb)
    replace HW := Lib.hid (HW.out.upW hb)
    replace HU := Lib.hid (HU.out.upW hb)
    replace HZ := Lib.hid (HZ.out.upW hb)
    have HE := Lib.hid (h1)
    have HEA := Lib.hid (h2)
    clear hb
    go_wp2_with fail
    have hts : ts.size ≤ 1048576 := by omega
    have HQI := Lib.hid (fun (wx : World) (hx : MatB wx.heap.size wx xe me) (ht : Lib.TabIs Tryz.prog wx "internal/strconv.uint64pow10" .u64 Lib.pow10Tab) => pwti_any _ xe me ts wx hx (Nat.le_refl _) HEA.out.fit hts ht)
    have HQS := Lib.hid (fun (wx : World) (hx : MatB wx.heap.size wx xe me) => pwts_any _ xe me ts wx hx (Nat.le_refl _) HEA.out.fit hts)
    clear h1 h2 h3 hts
    generalize pwtL me ts.data.toList = pl at *
    generalize pwtB me ts.data.toList = pb at *
    refine (HQI.out _ HE.out (tab_below HTB.out HB.out)).mono ?_
    rintro e w14 ⟨z1, rfl, h1, hb⟩
    replace HB := Lib.hid (HB.out.trans (hb.mono HB.out.size))
    replace HX := Lib.hid (HX.out.upW hb)
    replace HY := Lib.hid (HY.out.upW hb)
    replace HD := Lib.hid (HD.out.upW hb)
    replace HW := Lib.hid (HW.out.upW hb)
    replace HU := Lib.hid (HU.out.upW hb)
    replace HZ := Lib.hid (HZ.out.upW hb)
    replace HE := Lib.hid (HE.out.upW hb)
    clear hb
    go_wp2_with fail
    clear h1
    refine (HQS.out _ HE.out).mono ?_
    rintro e w15 ⟨z2, rfl, h1, hb⟩
    replace HB := Lib.hid (HB.out.trans (hb.mono HB.out.size))
    replace HX := Lib.hid (HX.out.upW hb)
    replace HY := Lib.hid (HY.out.upW hb)
    replace HD := Lib.hid (HD.out.upW hb)
    replace HW := Lib.hid (HW.out.upW hb)
    replace HU := Lib.hid (HU.out.upW hb)
    replace HZ := Lib.hid (HZ.out.upW hb)
    clear hb
    go_wp2_with fail
    clear h1 HE HEA HQI HQS
    refine (drawAd_any w.heap.size _ _ len hl (HC.out.below HB.out) HB.out.size).mono ?_
    rintro e w16 ⟨xp, xq, lp, lq, rfl, hb, h1, h2, h3, h4⟩
    replace HB := Lib.hid (HB.out.trans (hb.mono HB.out.size))
    replace HX := Lib.hid (HX.out.upW hb)
    replace HY := Lib.hid (HY.out.upW hb)
    replace HD := Lib.hid (HD.out.upW hb)
    replace HW := Lib.hid (HW.out.upW hb)
    replace HU := Lib.hid (HU.out.upW hb)
    replace HZ := Lib.hid (HZ.out.upW hb)
    have HP := Lib.hid (h1)
    have HPL := Lib.hid (h2)
    have HQ := Lib.hid (h3)
    have HQL := Lib.hid (h4)
    clear hb
    go_wp2_with fail
    clear h1 h2 h3 h4
    refine (drawSr_any w.heap.size _ _ len hl (HC.out.below HB.out) HB.out.size).mono ?_
    rintro e w17 ⟨xf, mf, fi, rfl, hb, h1, h2⟩
    replace HB := Lib.hid (HB.out.trans (hb.mono HB.out.size))
    replace HX := Lib.hid (HX.out.upW hb)
    replace HY := Lib.hid (HY.out.upW hb)
    replace HD := Lib.hid (HD.out.upW hb)
    replace HW := Lib.hid (HW.out.upW hb)
    replace HU := Lib.hid (HU.out.upW hb)
    replace HZ := Lib.hid (HZ.out.upW hb)
    replace HP := Lib.hid (HP.out.upW hb)
    replace HQ := Lib.hid (HQ.out.upW hb)
    have HF := Lib.hid (h1)
    have HFA := Lib.hid (h2)
    clear hb
    clear h1 h2
    have hpb : (pb == pb) = true := by simp
    have hwb2 : (wb == wb) = true := by simp
    have hfs : (fs.toList == fs.toList) = true := by simp
    have HDM := Lib.hid (show wsd.length ≤ 1048576 by have := HWL.out; omega)
    have HUM := Lib.hid (show ld.length ≤ 1048576 by have := HUL.out; omega)
    have HAL := Lib.hid (show (actL md wsd ld).length ≤ maxLen by rw [actL_len]; have := HUL.out; unfold maxLen; omega)
    go_wp2_with fail
    refine (acti_any _ _ _ _ _ _ md wsd ld _ HD.out HW.out HU.out (Nat.le_refl _) (Nat.le_refl _) (Nat.le_refl _) HDA.out.fit HDM.out HUM.out).mono ?_
    rintro e w18 ⟨a1, rfl, h1, hb⟩
    replace HB := Lib.hid (HB.out.trans (hb.mono HB.out.size))
    replace HX := Lib.hid (HX.out.upW hb)
    replace HY := Lib.hid (HY.out.upW hb)
    replace HD := Lib.hid (HD.out.upW hb)
    replace HW := Lib.hid (HW.out.upW hb)
    replace HU := Lib.hid (HU.out.upW hb)
    replace HZ := Lib.hid (HZ.out.upW hb)
    replace HP := Lib.hid (HP.out.upW hb)
    replace HQ := Lib.hid (HQ.out.upW hb)
    replace HF := Lib.hid (HF.out.upW hb)
    have HA1 := Lib.hid (h1.1.rowB)
    clear hb
    go_wp2_with fail
    clear h1
    refine (acts_any _ _ _ _ _ _ md wsd ld _ HD.out HW.out HU.out (Nat.le_refl _) (Nat.le_refl _) (Nat.le_refl _) HDA.out.fit HDM.out HUM.out).mono ?_
    rintro e w19 ⟨a2, rfl, h1, hb⟩
    replace HB := Lib.hid (HB.out.trans (hb.mono HB.out.size))
    replace HX := Lib.hid (HX.out.upW hb)
    replace HY := Lib.hid (HY.out.upW hb)
    replace HD := Lib.hid (HD.out.upW hb)
    replace HZ := Lib.hid (HZ.out.upW hb)
    replace HP := Lib.hid (HP.out.upW hb)
    replace HQ := Lib.hid (HQ.out.upW hb)
    replace HF := Lib.hid (HF.out.upW hb)
    replace HA1 := Lib.hid (HA1.out.upW hb)
    have HA2 := Lib.hid (h1.1.rowB)
    clear hb
    go_wp2_with fail
    clear h1 HW HU
    refine (smS_w _ _ (actL md wsd ld) _ HA1.out HA2.out HAL.out).mono ?_
    rintro e w20 ⟨rfl, hb⟩
    replace HB := Lib.hid (HB.out.trans (hb.mono HB.out.size))
    replace HX := Lib.hid (HX.out.upW hb)
    replace HY := Lib.hid (HY.out.upW hb)
    replace HD := Lib.hid (HD.out.upW hb)
    replace HZ := Lib.hid (HZ.out.upW hb)
    replace HP := Lib.hid (HP.out.upW hb)
    replace HQ := Lib.hid (HQ.out.upW hb)
    replace HF := Lib.hid (HF.out.upW hb)
    clear hb
    go_wp2_with fail
    clear HA1 HA2 HAL HDM HUM
    refine (HFS.out _ HY.out).mono ?_
    rintro e w21 ⟨rfl, hb⟩
    replace HB := Lib.hid (HB.out.trans (hb.mono HB.out.size))
    replace HX := Lib.hid (HX.out.upW hb)
    replace HY := Lib.hid (HY.out.upW hb)
    replace HD := Lib.hid (HD.out.upW hb)
    replace HZ := Lib.hid (HZ.out.upW hb)
    replace HP := Lib.hid (HP.out.upW hb)
    replace HQ := Lib.hid (HQ.out.upW hb)
    replace HF := Lib.hid (HF.out.upW hb)
    clear hb
    go_wp2_with fail
    clear HFS
    cases wb
    case' true => rw [HZL.out rfl] at HZ
    all_goals
      clear hwb2 HZL
      have hwb2 : (true == true) = true := rfl
      have hwb3 : (false == false) = true := rfl
      refine (HIS.out _ HX.out HY.out).mono ?_
      rintro e w22 ⟨rfl, hb⟩
      replace HB := Lib.hid (HB.out.trans (hb.mono HB.out.size))
      replace HY := Lib.hid (HY.out.upW hb)
      replace HD := Lib.hid (HD.out.upW hb)
      replace HZ := Lib.hid (HZ.out.upW hb)
      replace HP := Lib.hid (HP.out.upW hb)
      replace HQ := Lib.hid (HQ.out.upW hb)
      replace HF := Lib.hid (HF.out.upW hb)
      clear hb
      go_wp2_with fail
      clear HIS HII HX
      try (refine (smS_w _ _ l _ HZ.out HY.out (by rw [HN2.out]; exact HLM.out)).mono ?_; rintro e wq ⟨rfl, hb⟩; replace HB := Lib.hid (HB.out.trans (hb.mono HB.out.size)); replace HD := Lib.hid (HD.out.upW hb); replace HP := Lib.hid (HP.out.upW hb); replace HQ := Lib.hid (HQ.out.upW hb); replace HF := Lib.hid (HF.out.upW hb); clear hb; go_wp2_with fail)
      clear HZ HY
      have HPM := Lib.hid (show lp.length ≤ 1048576 by have := HPL.out; omega)
      have HQM := Lib.hid (show lq.length ≤ 1048576 by have := HQL.out; omega)
      have HAD := Lib.hid (show (addL lp lq).length ≤ maxLen by have := addL_len lp lq; have := HPL.out; unfold maxLen; omega)
      refine (addi_any _ _ _ _ lp lq _ HP.out HQ.out (Nat.le_refl _) (Nat.le_refl _) HPM.out HQM.out).mono ?_
      rintro e w23 ⟨b1, rfl, h1, hb⟩
      replace HB := Lib.hid (HB.out.trans (hb.mono HB.out.size))
      replace HD := Lib.hid (HD.out.upW hb)
      replace HP := Lib.hid (HP.out.upW hb)
      replace HQ := Lib.hid (HQ.out.upW hb)
      replace HF := Lib.hid (HF.out.upW hb)
      have HB1 := Lib.hid (h1.1.rowB)
      clear hb
      go_wp2_with fail
      clear h1
      refine (adds_any _ _ _ _ lp lq _ HP.out HQ.out (Nat.le_refl _) (Nat.le_refl _) HPM.out HQM.out).mono ?_
      rintro e w24 ⟨b2, rfl, h1, hb⟩
      replace HB := Lib.hid (HB.out.trans (hb.mono HB.out.size))
      replace HD := Lib.hid (HD.out.upW hb)
      replace HF := Lib.hid (HF.out.upW hb)
      replace HB1 := Lib.hid (HB1.out.upW hb)
      have HB2 := Lib.hid (h1.1.rowB)
      clear hb
      go_wp2_with fail
      clear h1 HP HQ
      refine (smS_w _ _ (addL lp lq) _ HB1.out HB2.out HAD.out).mono ?_
      rintro e w25 ⟨rfl, hb⟩
      replace HB := Lib.hid (HB.out.trans (hb.mono HB.out.size))
      replace HD := Lib.hid (HD.out.upW hb)
      replace HF := Lib.hid (HF.out.upW hb)
      clear hb
      go_wp2_with fail
      clear HB1 HB2 HAD HPM HQM
      have HSL := Lib.hid (show (srwL mf fi).length ≤ maxLen by have := srwL_len mf fi; unfold maxLen; omega)
      refine (srwi_any _ _ mf fi _ HF.out (Nat.le_refl _) HFA.out.fit).mono ?_
      rintro e w26 ⟨c1, rfl, h1, hb⟩
      replace HB := Lib.hid (HB.out.trans (hb.mono HB.out.size))
      replace HD := Lib.hid (HD.out.upW hb)
      replace HF := Lib.hid (HF.out.upW hb)
      have HC1 := Lib.hid (h1.1.rowB)
      clear hb
      go_wp2_with fail
      clear h1
      refine (srws_any _ _ mf fi _ HF.out (Nat.le_refl _) HFA.out.fit).mono ?_
      rintro e w27 ⟨c2, rfl, h1, hb⟩
      replace HB := Lib.hid (HB.out.trans (hb.mono HB.out.size))
      replace HD := Lib.hid (HD.out.upW hb)
      replace HC1 := Lib.hid (HC1.out.upW hb)
      have HC2 := Lib.hid (h1.1.rowB)
      clear hb
      go_wp2_with fail
      clear h1 HF
      refine (smS_w _ _ (srwL mf fi) _ HC1.out HC2.out HSL.out).mono ?_
      rintro e w28 ⟨rfl, hb⟩
      replace HB := Lib.hid (HB.out.trans (hb.mono HB.out.size))
      replace HD := Lib.hid (HD.out.upW hb)
      clear hb
      go_wp2_with fail
      clear HC1 HC2 HSL
      have HRL := Lib.hid (show (rhoL md).length ≤ maxLen by have := rhoL_len md; unfold maxLen; omega)
      refine (rhoi_any _ _ md _ HD.out (Nat.le_refl _) HDA.out.fit).mono ?_
      rintro e w29 ⟨d1, rfl, h1, hb⟩
      replace HB := Lib.hid (HB.out.trans (hb.mono HB.out.size))
      replace HD := Lib.hid (HD.out.upW hb)
      have HD1 := Lib.hid (h1.1.rowB)
      clear hb
      go_wp2_with fail
      clear h1
      refine (rhos_any _ _ md _ HD.out (Nat.le_refl _) HDA.out.fit).mono ?_
      rintro e w30 ⟨d2, rfl, h1, hb⟩
      replace HB := Lib.hid (HB.out.trans (hb.mono HB.out.size))
      replace HD1 := Lib.hid (HD1.out.upW hb)
      have HD2 := Lib.hid (h1.1.rowB)
      clear hb
      go_wp2_with fail
      clear h1 HD
      refine (smS_w _ _ (rhoL md) _ HD1.out HD2.out HRL.out).mono ?_
      rintro e w31 ⟨rfl, hb⟩
      replace HB := Lib.hid (HB.out.trans (hb.mono HB.out.size))
      clear hb
      go_wp2_with fail
      go_ret
      exact ⟨rfl, HB.out⟩
  · have HC1 := Lib.hid (HISC.out true (isB_yes hI))
    have heq : ((n2 : Int) == (n : Int)) = false := by rw [beq_eq_false_iff_ne]; omega
    clear hI h1 HCS HISC HAI HBR HBO hwb
    refine (HC1.out _ HX.out).mono ?_
    rintro e w32 ⟨rfl, hb⟩
    replace HB := Lib.hid (HB.out.trans (hb.mono HB.out.size))
    replace HX := Lib.hid (HX.out.upW hb)
    replace HY := Lib.hid (HY.out.upW hb)
    clear hb
    go_wp2_with fail
    clear HC1
    refine (drawAc_any w.heap.size _ _ len hl (HC.out.below HB.out) HB.out.size).mono ?_
    rintro e w33 ⟨xd, zw, yu, md, wsd, ld, rfl, hb, h1, h2, h3, h4, h5, h6⟩
    replace HB := Lib.hid (HB.out.trans (hb.mono HB.out.size))
    replace HX := Lib.hid (HX.out.upW hb)
    replace HY := Lib.hid (HY.out.upW hb)
    have HD := Lib.hid (h1)
    have HDA := Lib.hid (h2)
    have HW := Lib.hid (h3)
    have HWL := Lib.hid (h4)
    have HU := Lib.hid (h5)
    have HUL := Lib.hid (h6)
    clear hb
    go_wp2_with fail
    clear h1 h2 h3 h4 h5 h6
    refine (HFI.out _ HY.out (tab_below HTB.out HB.out)).mono ?_
    rintro e w34 ⟨rfl, hb⟩
    replace HB := Lib.hid (HB.out.trans (hb.mono HB.out.size))
    replace HX := Lib.hid (HX.out.upW hb)
    replace HY := Lib.hid (HY.out.upW hb)
    replace HD := Lib.hid (HD.out.upW hb)
    replace HW := Lib.hid (HW.out.upW hb)
    replace HU := Lib.hid (HU.out.upW hb)
    clear hb
    go_wp2_with fail
    refine (HPI.out _ HX.out (tab_below HTB.out HB.out)).mono ?_
    rintro e w35 ⟨z, rfl, h1, hb⟩
    replace HB := Lib.hid (HB.out.trans (hb.mono HB.out.size))
    replace HX := Lib.hid (HX.out.upW hb)
    replace HY := Lib.hid (HY.out.upW hb)
    replace HD := Lib.hid (HD.out.upW hb)
    replace HW := Lib.hid (HW.out.upW hb)
    replace HU := Lib.hid (HU.out.upW hb)
    have HZ := Lib.hid (h1.1.rowB)
    clear hb
    go_wp2_with fail
    clear h1 HFI HPI
    refine (drawPwt_any w.heap.size _ _ len hl (HC.out.below HB.out) HB.out.size).mono ?_
    rintro e w36 ⟨xe, me, ts, rfl, hb, h1, h2, h3⟩
    replace HB := Lib.hid (HB.out.trans (hb.mono HB.out.size))
    replace HX := Lib.hid (HX.out.upW hb)
    replace HY := Lib.hid (HY.out.upW hb)
    replace HD := Lib.hid (HD.out.upW hb)
    replace HW := Lib.hid (HW.out.upW hb)
    replace HU := Lib.hid (HU.out.upW hb)
    replace HZ := Lib.hid (HZ.out.upW hb)
    have HE := Lib.hid (h1)
    have HEA := Lib.hid (h2)
    clear hb
    go_wp2_with fail
    have hts : ts.size ≤ 1048576 := by omega
    have HQI := Lib.hid (fun (wx : World) (hx : MatB wx.heap.size wx xe me) (ht : Lib.TabIs Tryz.prog wx "internal/strconv.uint64pow10" .u64 Lib.pow10Tab) => pwti_any _ xe me ts wx hx (Nat.le_refl _) HEA.out.fit hts ht)
    have HQS := Lib.hid (fun (wx : World) (hx : MatB wx.heap.size wx xe me) => pwts_any _ xe me ts wx hx (Nat.le_refl _) HEA.out.fit hts)
    clear h1 h2 h3 hts
    generalize pwtL me ts.data.toList = pl at *
    generalize pwtB me ts.data.toList = pb at *
    refine (HQI.out _ HE.out (tab_below HTB.out HB.out)).mono ?_
    rintro e w37 ⟨z1, rfl, h1, hb⟩
    replace HB := Lib.hid (HB.out.trans (hb.mono HB.out.size))
    replace HX := Lib.hid (HX.out.upW hb)
    replace HY := Lib.hid (HY.out.upW hb)
    replace HD := Lib.hid (HD.out.upW hb)
    replace HW := Lib.hid (HW.out.upW hb)
    replace HU := Lib.hid (HU.out.upW hb)
    replace HZ := Lib.hid (HZ.out.upW hb)
    replace HE := Lib.hid (HE.out.upW hb)
    clear hb
    go_wp2_with fail
    clear h1
    refine (HQS.out _ HE.out).mono ?_
    rintro e w38 ⟨z2, rfl, h1, hb⟩
    replace HB := Lib.hid (HB.out.trans (hb.mono HB.out.size))
    replace HX := Lib.hid (HX.out.upW hb)
    replace HY := Lib.hid (HY.out.upW hb)
    replace HD := Lib.hid (HD.out.upW hb)
    replace HW := Lib.hid (HW.out.upW hb)
    replace HU := Lib.hid (HU.out.upW hb)
    replace HZ := Lib.hid (HZ.out.upW hb)
    clear hb
    go_wp2_with fail
    clear h1 HE HEA HQI HQS
    refine (drawAd_any w.heap.size _ _ len hl (HC.out.below HB.out) HB.out.size).mono ?_
    rintro e w39 ⟨xp, xq, lp, lq, rfl, hb, h1, h2, h3, h4⟩
    replace HB := Lib.hid (HB.out.trans (hb.mono HB.out.size))
    replace HX := Lib.hid (HX.out.upW hb)
    replace HY := Lib.hid (HY.out.upW hb)
    replace HD := Lib.hid (HD.out.upW hb)
    replace HW := Lib.hid (HW.out.upW hb)
    replace HU := Lib.hid (HU.out.upW hb)
    replace HZ := Lib.hid (HZ.out.upW hb)
    have HP := Lib.hid (h1)
    have HPL := Lib.hid (h2)
    have HQ := Lib.hid (h3)
    have HQL := Lib.hid (h4)
    clear hb
    go_wp2_with fail
    clear h1 h2 h3 h4
    refine (drawSr_any w.heap.size _ _ len hl (HC.out.below HB.out) HB.out.size).mono ?_
    rintro e w40 ⟨xf, mf, fi, rfl, hb, h1, h2⟩
    replace HB := Lib.hid (HB.out.trans (hb.mono HB.out.size))
    replace HX := Lib.hid (HX.out.upW hb)
    replace HY := Lib.hid (HY.out.upW hb)
    replace HD := Lib.hid (HD.out.upW hb)
    replace HW := Lib.hid (HW.out.upW hb)
    replace HU := Lib.hid (HU.out.upW hb)
    replace HZ := Lib.hid (HZ.out.upW hb)
    replace HP := Lib.hid (HP.out.upW hb)
    replace HQ := Lib.hid (HQ.out.upW hb)
    have HF := Lib.hid (h1)
    have HFA := Lib.hid (h2)
    clear hb
    clear h1 h2
    have hpb : (pb == pb) = true := by simp
    have hwb2 : (wb == wb) = true := by simp
    have hfs : (fs.toList == fs.toList) = true := by simp
    have HDM := Lib.hid (show wsd.length ≤ 1048576 by have := HWL.out; omega)
    have HUM := Lib.hid (show ld.length ≤ 1048576 by have := HUL.out; omega)
    have HAL := Lib.hid (show (actL md wsd ld).length ≤ maxLen by rw [actL_len]; have := HUL.out; unfold maxLen; omega)
    go_wp2_with fail
    refine (acti_any _ _ _ _ _ _ md wsd ld _ HD.out HW.out HU.out (Nat.le_refl _) (Nat.le_refl _) (Nat.le_refl _) HDA.out.fit HDM.out HUM.out).mono ?_
    rintro e w41 ⟨a1, rfl, h1, hb⟩
    replace HB := Lib.hid (HB.out.trans (hb.mono HB.out.size))
    replace HX := Lib.hid (HX.out.upW hb)
    replace HY := Lib.hid (HY.out.upW hb)
    replace HD := Lib.hid (HD.out.upW hb)
    replace HW := Lib.hid (HW.out.upW hb)
    replace HU := Lib.hid (HU.out.upW hb)
    replace HZ := Lib.hid (HZ.out.upW hb)
    replace HP := Lib.hid (HP.out.upW hb)
    replace HQ := Lib.hid (HQ.out.upW hb)
    replace HF := Lib.hid (HF.out.upW hb)
    have HA1 := Lib.hid (h1.1.rowB)
    clear hb
    go_wp2_with fail
    clear h1
    refine (acts_any _ _ _ _ _ _ md wsd ld _ HD.out HW.out HU.out (Nat.le_refl _) (Nat.le_refl _) (Nat.le_refl _) HDA.out.fit HDM.out HUM.out).mono ?_
    rintro e w42 ⟨a2, rfl, h1, hb⟩
    replace HB := Lib.hid (HB.out.trans (hb.mono HB.out.size))
    replace HX := Lib.hid (HX.out.upW hb)
    replace HY := Lib.hid (HY.out.upW hb)
    replace HD := Lib.hid (HD.out.upW hb)
    replace HZ := Lib.hid (HZ.out.upW hb)
    replace HP := Lib.hid (HP.out.upW hb)
    replace HQ := Lib.hid (HQ.out.upW hb)
    replace HF := Lib.hid (HF.out.upW hb)
    replace HA1 := Lib.hid (HA1.out.upW hb)
    have HA2 := Lib.hid (h1.1.rowB)
    clear hb
    go_wp2_with fail
    clear h1 HW HU
    refine (smS_w _ _ (actL md wsd ld) _ HA1.out HA2.out HAL.out).mono ?_
    rintro e w43 ⟨rfl, hb⟩
    replace HB := Lib.hid (HB.out.trans (hb.mono HB.out.size))
    replace HX := Lib.hid (HX.out.upW hb)
    replace HY := Lib.hid (HY.out.upW hb)
    replace HD := Lib.hid (HD.out.upW hb)
    replace HZ := Lib.hid (HZ.out.upW hb)
    replace HP := Lib.hid (HP.out.upW hb)
    replace HQ := Lib.hid (HQ.out.upW hb)
    replace HF := Lib.hid (HF.out.upW hb)
    clear hb
    go_wp2_with fail
    clear HA1 HA2 HAL HDM HUM
    refine (HFS.out _ HY.out).mono ?_
    rintro e w44 ⟨rfl, hb⟩
    replace HB := Lib.hid (HB.out.trans (hb.mono HB.out.size))
    replace HX := Lib.hid (HX.out.upW hb)
    replace HY := Lib.hid (HY.out.upW hb)
    replace HD := Lib.hid (HD.out.upW hb)
    replace HZ := Lib.hid (HZ.out.upW hb)
    replace HP := Lib.hid (HP.out.upW hb)
    replace HQ := Lib.hid (HQ.out.upW hb)
    replace HF := Lib.hid (HF.out.upW hb)
    clear hb
    go_wp2_with fail
    clear HFS
    cases wb
    case' true => rw [HZL.out rfl] at HZ
    all_goals
      clear hwb2 HZL
      have hwb2 : (true == true) = true := rfl
      have hwb3 : (false == false) = true := rfl
      refine (HIS.out _ HX.out HY.out).mono ?_
      rintro e w45 ⟨rfl, hb⟩
      replace HB := Lib.hid (HB.out.trans (hb.mono HB.out.size))
      replace HY := Lib.hid (HY.out.upW hb)
      replace HD := Lib.hid (HD.out.upW hb)
      replace HZ := Lib.hid (HZ.out.upW hb)
      replace HP := Lib.hid (HP.out.upW hb)
      replace HQ := Lib.hid (HQ.out.upW hb)
      replace HF := Lib.hid (HF.out.upW hb)
      clear hb
      go_wp2_with fail
      clear HIS HII HX
      try (refine (smS_w _ _ l _ HZ.out HY.out (by rw [HN2.out]; exact HLM.out)).mono ?_; rintro e wq ⟨rfl, hb⟩; replace HB := Lib.hid (HB.out.trans (hb.mono HB.out.size)); replace HD := Lib.hid (HD.out.upW hb); replace HP := Lib.hid (HP.out.upW hb); replace HQ := Lib.hid (HQ.out.upW hb); replace HF := Lib.hid (HF.out.upW hb); clear hb; go_wp2_with fail)
      clear HZ HY
      have HPM := Lib.hid (show lp.length ≤ 1048576 by have := HPL.out; omega)
      have HQM := Lib.hid (show lq.length ≤ 1048576 by have := HQL.out; omega)
      have HAD := Lib.hid (show (addL lp lq).length ≤ maxLen by have := addL_len lp lq; have := HPL.out; unfold maxLen; omega)
      refine (addi_any _ _ _ _ lp lq _ HP.out HQ.out (Nat.le_refl _) (Nat.le_refl _) HPM.out HQM.out).mono ?_
      rintro e w46 ⟨b1, rfl, h1, hb⟩
      replace HB := Lib.hid (HB.out.trans (hb.mono HB.out.size))
      replace HD := Lib.hid (HD.out.upW hb)
      replace HP := Lib.hid (HP.out.upW hb)
      replace HQ := Lib.hid (HQ.out.upW hb)
      replace HF := Lib.hid (HF.out.upW hb)
      have HB1 := Lib.hid (h1.1.rowB)
      clear hb
      go_wp2_with fail
      clear h1
      refine (adds_any _ _ _ _ lp lq _ HP.out HQ.out (Nat.le_refl _) (Nat.le_refl _) HPM.out HQM.out).mono ?_
      rintro e w47 ⟨b2, rfl, h1, hb⟩
      replace HB := Lib.hid (HB.out.trans (hb.mono HB.out.size))
      replace HD := Lib.hid (HD.out.upW hb)
      replace HF := Lib.hid (HF.out.upW hb)
      replace HB1 := Lib.hid (HB1.out.upW hb)
      have HB2 := Lib.hid (h1.1.rowB)
      clear hb
      go_wp2_with fail
      clear h1 HP HQ
      refine (smS_w _ _ (addL lp lq) _ HB1.out HB2.out HAD.out).mono ?_
      rintro e w48 ⟨rfl, hb⟩
      replace HB := Lib.hid (HB.out.trans (hb.mono HB.out.size))
      replace HD := Lib.hid (HD.out.upW hb)
      replace HF := Lib.hid (HF.out.upW hb)
      clear hb
      go_wp2_with fail
      clear HB1 HB2 HAD HPM HQM
      have HSL := Lib.hid (show (srwL mf fi).length ≤ maxLen by have := srwL_len mf fi; unfold maxLen; omega)
      refine (srwi_any _ _ mf fi _ HF.out (Nat.le_refl _) HFA.out.fit).mono ?_
      rintro e w49 ⟨c1, rfl, h1, hb⟩
      replace HB := Lib.hid (HB.out.trans (hb.mono HB.out.size))
      replace HD := Lib.hid (HD.out.upW hb)
      replace HF := Lib.hid (HF.out.upW hb)
      have HC1 := Lib.hid (h1.1.rowB)
      clear hb
      go_wp2_with fail
      clear h1
      refine (srws_any _ _ mf fi _ HF.out (Nat.le_refl _) HFA.out.fit).mono ?_
      rintro e w50 ⟨c2, rfl, h1, hb⟩
      replace HB := Lib.hid (HB.out.trans (hb.mono HB.out.size))
      replace HD := Lib.hid (HD.out.upW hb)
      replace HC1 := Lib.hid (HC1.out.upW hb)
      have HC2 := Lib.hid (h1.1.rowB)
      clear hb
      go_wp2_with fail
      clear h1 HF
      refine (smS_w _ _ (srwL mf fi) _ HC1.out HC2.out HSL.out).mono ?_
      rintro e w51 ⟨rfl, hb⟩
      replace HB := Lib.hid (HB.out.trans (hb.mono HB.out.size))
      replace HD := Lib.hid (HD.out.upW hb)
      clear hb
      go_wp2_with fail
      clear HC1 HC2 HSL
      have HRL := Lib.hid (show (rhoL md).length ≤ maxLen by have := rhoL_len md; unfold maxLen; omega)
      refine (rhoi_any _ _ md _ HD.out (Nat.le_refl _) HDA.out.fit).mono ?_
      rintro e w52 ⟨d1, rfl, h1, hb⟩
      replace HB := Lib.hid (HB.out.trans (hb.mono HB.out.size))
      replace HD := Lib.hid (HD.out.upW hb)
      have HD1 := Lib.hid (h1.1.rowB)
      clear hb
      go_wp2_with fail
      clear h1
      refine (rhos_any _ _ md _ HD.out (Nat.le_refl _) HDA.out.fit).mono ?_
      rintro e w53 ⟨d2, rfl, h1, hb⟩
      replace HB := Lib.hid (HB.out.trans (hb.mono HB.out.size))
      replace HD1 := Lib.hid (HD1.out.upW hb)
      have HD2 := Lib.hid (h1.1.rowB)
      clear hb
      go_wp2_with fail
      clear h1 HD
      refine (smS_w _ _ (rhoL md) _ HD1.out HD2.out HRL.out).mono ?_
      rintro e w54 ⟨rfl, hb⟩
      replace HB := Lib.hid (HB.out.trans (hb.mono HB.out.size))
      clear hb
      go_wp2_with fail
      go_ret
      exact ⟨rfl, HB.out⟩
  · have HC1 := Lib.hid (HISC.out true (isB_yes hI))
    have heq : ((n2 : Int) == (n : Int)) = true := by rw [beq_iff_eq]; omega
    have hgt : decide (1 < (n : Int)) = false := decide_eq_false (by omega)
    have hgt2 : decide (1 < n) = false := decide_eq_false (by omega)
    clear hI h1 h2 HCS HISC HAI HBR HBO hwb
    refine (HC1.out _ HX.out).mono ?_
    rintro e w55 ⟨rfl, hb⟩
    replace HB := Lib.hid (HB.out.trans (hb.mono HB.out.size))
    replace HX := Lib.hid (HX.out.upW hb)
    replace HY := Lib.hid (HY.out.upW hb)
    clear hb
    go_wp2_with fail
    clear HC1
    refine (drawAc_any w.heap.size _ _ len hl (HC.out.below HB.out) HB.out.size).mono ?_
    rintro e w56 ⟨xd, zw, yu, md, wsd, ld, rfl, hb, h1, h2, h3, h4, h5, h6⟩
    replace HB := Lib.hid (HB.out.trans (hb.mono HB.out.size))
    replace HX := Lib.hid (HX.out.upW hb)
    replace HY := Lib.hid (HY.out.upW hb)
    have HD := Lib.hid (h1)
    have HDA := Lib.hid (h2)
    have HW := Lib.hid (h3)
    have HWL := Lib.hid (h4)
    have HU := Lib.hid (h5)
    have HUL := Lib.hid (h6)
    clear hb
    go_wp2_with fail
    clear h1 h2 h3 h4 h5 h6
    refine (HFI.out _ HY.out (tab_below HTB.out HB.out)).mono ?_
    rintro e w57 ⟨rfl, hb⟩
    replace HB := Lib.hid (HB.out.trans (hb.mono HB.out.size))
    replace HX := Lib.hid (HX.out.upW hb)
    replace HY := Lib.hid (HY.out.upW hb)
    replace HD := Lib.hid (HD.out.upW hb)
    replace HW := Lib.hid (HW.out.upW hb)
    replace HU := Lib.hid (HU.out.upW hb)
    clear hb
    go_wp2_with fail
    refine (HPI.out _ HX.out (tab_below HTB.out HB.out)).mono ?_
    rintro e w58 ⟨z, rfl, h1, hb⟩
    replace HB := Lib.hid (HB.out.trans (hb.mono HB.out.size))
    replace HX := Lib.hid (HX.out.upW hb)
    replace HY := Lib.hid (HY.out.upW hb)
    replace HD := Lib.hid (HD.out.upW hb)
    replace HW := Lib.hid (HW.out.upW hb)
    replace HU := Lib.hid (HU.out.upW hb)
    have HZ := Lib.hid (h1.1.rowB)
    clear hb
    go_wp2_with fail
    clear h1 HFI HPI
    refine (drawPwt_any w.heap.size _ _ len hl (HC.out.below HB.out) HB.out.size).mono ?_
    rintro e w59 ⟨xe, me, ts, rfl, hb, h1, h2, h3⟩
    replace HB := Lib.hid (HB.out.trans (hb.mono HB.out.size))
    replace HX := Lib.hid (HX.out.upW hb)
    replace HY := Lib.hid (HY.out.upW hb)
    replace HD := Lib.hid (HD.out.upW hb)
    replace HW := Lib.hid (HW.out.upW hb)
    replace HU := Lib.hid (HU.out.upW hb)
    replace HZ := Lib.hid (HZ.out.upW hb)
    have HE := Lib.hid (h1)
    have HEA := Lib.hid (h2)
    clear hb
    go_wp2_with fail
    have hts : ts.size ≤ 1048576 := by omega
    have HQI := Lib.hid (fun (wx : World) (hx : MatB wx.heap.size wx xe me) (ht : Lib.TabIs Tryz.prog wx "internal/strconv.uint64pow10" .u64 Lib.pow10Tab) => pwti_any _ xe me ts wx hx (Nat.le_refl _) HEA.out.fit hts ht)
    have HQS := Lib.hid (fun (wx : World) (hx : MatB wx.heap.size wx xe me) => pwts_any _ xe me ts wx hx (Nat.le_refl _) HEA.out.fit hts)
    clear h1 h2 h3 hts
    generalize pwtL me ts.data.toList = pl at *
    generalize pwtB me ts.data.toList = pb at *
    refine (HQI.out _ HE.out (tab_below HTB.out HB.out)).mono ?_
    rintro e w60 ⟨z1, rfl, h1, hb⟩
    replace HB := Lib.hid (HB.out.trans (hb.mono HB.out.size))
    replace HX := Lib.hid (HX.out.upW hb)
    replace HY := Lib.hid (HY.out.upW hb)
    replace HD := Lib.hid (HD.out.upW hb)
    replace HW := Lib.hid (HW.out.upW hb)
    replace HU := Lib.hid (HU.out.upW hb)
    replace HZ := Lib.hid (HZ.out.upW hb)
    replace HE := Lib.hid (HE.out.upW hb)
    clear hb
    go_wp2_with fail
    clear h1
    refine (HQS.out _ HE.out).mono ?_
    rintro e w61 ⟨z2, rfl, h1, hb⟩
    replace HB := Lib.hid (HB.out.trans (hb.mono HB.out.size))
    replace HX := Lib.hid (HX.out.upW hb)
    replace HY := Lib.hid (HY.out.upW hb)
    replace HD := Lib.hid (HD.out.upW hb)
    replace HW := Lib.hid (HW.out.upW hb)
    replace HU := Lib.hid (HU.out.upW hb)
    replace HZ := Lib.hid (HZ.out.upW hb)
    clear hb
    go_wp2_with fail
    clear h1 HE HEA HQI HQS
    refine (drawAd_any w.heap.size _ _ len hl (HC.out.below HB.out) HB.out.size).mono ?_
    rintro e w62 ⟨xp, xq, lp, lq, rfl, hb, h1, h2, h3, h4⟩
    replace HB := Lib.hid (HB.out.trans (hb.mono HB.out.size))
    replace HX := Lib.hid (HX.out.upW hb)
    replace HY := Lib.hid (HY.out.upW hb)
    replace HD := Lib.hid (HD.out.upW hb)
    replace HW := Lib.hid (HW.out.upW hb)
    replace HU := Lib.hid (HU.out.upW hb)
    replace HZ := Lib.hid (HZ.out.upW hb)
    have HP := Lib.hid (h1)
    have HPL := Lib.hid (h2)
    have HQ := Lib.hid (h3)
    have HQL := Lib.hid (h4)
    clear hb
    go_wp2_with fail
    clear h1 h2 h3 h4
    refine (drawSr_any w.heap.size _ _ len hl (HC.out.below HB.out) HB.out.size).mono ?_
    rintro e w63 ⟨xf, mf, fi, rfl, hb, h1, h2⟩
    replace HB := Lib.hid (HB.out.trans (hb.mono HB.out.size))
    replace HX := Lib.hid (HX.out.upW hb)
    replace HY := Lib.hid (HY.out.upW hb)
    replace HD := Lib.hid (HD.out.upW hb)
    replace HW := Lib.hid (HW.out.upW hb)
    replace HU := Lib.hid (HU.out.upW hb)
    replace HZ := Lib.hid (HZ.out.upW hb)
    replace HP := Lib.hid (HP.out.upW hb)
    replace HQ := Lib.hid (HQ.out.upW hb)
    have HF := Lib.hid (h1)
    have HFA := Lib.hid (h2)
    clear hb
    clear h1 h2
    have hpb : (pb == pb) = true := by simp
    have hwb2 : (wb == wb) = true := by simp
    have hfs : (fs.toList == fs.toList) = true := by simp
    have HDM := Lib.hid (show wsd.length ≤ 1048576 by have := HWL.out; omega)
    have HUM := Lib.hid (show ld.length ≤ 1048576 by have := HUL.out; omega)
    have HAL := Lib.hid (show (actL md wsd ld).length ≤ maxLen by rw [actL_len]; have := HUL.out; unfold maxLen; omega)
    go_wp2_with fail
    refine (acti_any _ _ _ _ _ _ md wsd ld _ HD.out HW.out HU.out (Nat.le_refl _) (Nat.le_refl _) (Nat.le_refl _) HDA.out.fit HDM.out HUM.out).mono ?_
    rintro e w64 ⟨a1, rfl, h1, hb⟩
    replace HB := Lib.hid (HB.out.trans (hb.mono HB.out.size))
    replace HX := Lib.hid (HX.out.upW hb)
    replace HY := Lib.hid (HY.out.upW hb)
    replace HD := Lib.hid (HD.out.upW hb)
    replace HW := Lib.hid (HW.out.upW hb)
    replace HU := Lib.hid (HU.out.upW hb)
    replace HZ := Lib.hid (HZ.out.upW hb)
    replace HP := Lib.hid (HP.out.upW hb)
    replace HQ := Lib.hid (HQ.out.upW hb)
    replace HF := Lib.hid (HF.out.upW hb)
    have HA1 := Lib.hid (h1.1.rowB)
    clear hb
    go_wp2_with fail
    clear h1
    refine (acts_any _ _ _ _ _ _ md wsd ld _ HD.out HW.out HU.out (Nat.le_refl _) (Nat.le_refl _) (Nat.le_refl _) HDA.out.fit HDM.out HUM.out).mono ?_
    rintro e w65 ⟨a2, rfl, h1, hb⟩
    replace HB := Lib.hid (HB.out.trans (hb.mono HB.out.size))
    replace HX := Lib.hid (HX.out.upW hb)
    replace HY := Lib.hid (HY.out.upW hb)
    replace HD := Lib.hid (HD.out.upW hb)
    replace HZ := Lib.hid (HZ.out.upW hb)
    replace HP := Lib.hid (HP.out.upW hb)
    replace HQ := Lib.hid (HQ.out.upW hb)
    replace HF := Lib.hid (HF.out.upW hb)
    replace HA1 := Lib.hid (HA1.out.upW hb)
    have HA2 := Lib.hid (h1.1.rowB)
    clear hb
    go_wp2_with fail
    clear h1 HW HU
    refine (smS_w _ _ (actL md wsd ld) _ HA1.out HA2.out HAL.out).mono ?_
    rintro e w66 ⟨rfl, hb⟩
    replace HB := Lib.hid (HB.out.trans (hb.mono HB.out.size))
    replace HX := Lib.hid (HX.out.upW hb)
    replace HY := Lib.hid (HY.out.upW hb)
    replace HD := Lib.hid (HD.out.upW hb)
    replace HZ := Lib.hid (HZ.out.upW hb)
    replace HP := Lib.hid (HP.out.upW hb)
    replace HQ := Lib.hid (HQ.out.upW hb)
    replace HF := Lib.hid (HF.out.upW hb)
    clear hb
    go_wp2_with fail
    clear HA1 HA2 HAL HDM HUM
    refine (HFS.out _ HY.out).mono ?_
    rintro e w67 ⟨rfl, hb⟩
    replace HB := Lib.hid (HB.out.trans (hb.mono HB.out.size))
    replace HX := Lib.hid (HX.out.upW hb)
    replace HY := Lib.hid (HY.out.upW hb)
    replace HD := Lib.hid (HD.out.upW hb)
    replace HZ := Lib.hid (HZ.out.upW hb)
    replace HP := Lib.hid (HP.out.upW hb)
    replace HQ := Lib.hid (HQ.out.upW hb)
    replace HF := Lib.hid (HF.out.upW hb)
    clear hb
    go_wp2_with fail
    clear HFS
    cases wb
    case' true => rw [HZL.out rfl] at HZ
    all_goals
      clear hwb2 HZL
      have hwb2 : (true == true) = true := rfl
      have hwb3 : (false == false) = true := rfl
      refine (HIS.out _ HX.out HY.out).mono ?_
      rintro e w68 ⟨rfl, hb⟩
      replace HB := Lib.hid (HB.out.trans (hb.mono HB.out.size))
      replace HY := Lib.hid (HY.out.upW hb)
      replace HD := Lib.hid (HD.out.upW hb)
      replace HZ := Lib.hid (HZ.out.upW hb)
      replace HP := Lib.hid (HP.out.upW hb)
      replace HQ := Lib.hid (HQ.out.upW hb)
      replace HF := Lib.hid (HF.out.upW hb)
      clear hb
      go_wp2_with fail
      clear HIS HII HX
      try (refine (smS_w _ _ l _ HZ.out HY.out (by rw [HN2.out]; exact HLM.out)).mono ?_; rintro e wq ⟨rfl, hb⟩; replace HB := Lib.hid (HB.out.trans (hb.mono HB.out.size)); replace HD := Lib.hid (HD.out.upW hb); replace HP := Lib.hid (HP.out.upW hb); replace HQ := Lib.hid (HQ.out.upW hb); replace HF := Lib.hid (HF.out.upW hb); clear hb; go_wp2_with fail)
      clear HZ HY
      have HPM := Lib.hid (show lp.length ≤ 1048576 by have := HPL.out; omega)
      have HQM := Lib.hid (show lq.length ≤ 1048576 by have := HQL.out; omega)
      have HAD := Lib.hid (show (addL lp lq).length ≤ maxLen by have := addL_len lp lq; have := HPL.out; unfold maxLen; omega)
      refine (addi_any _ _ _ _ lp lq _ HP.out HQ.out (Nat.le_refl _) (Nat.le_refl _) HPM.out HQM.out).mono ?_
      rintro e w69 ⟨b1, rfl, h1, hb⟩
      replace HB := Lib.hid (HB.out.trans (hb.mono HB.out.size))
      replace HD := Lib.hid (HD.out.upW hb)
      replace HP := Lib.hid (HP.out.upW hb)
      replace HQ := Lib.hid (HQ.out.upW hb)
      replace HF := Lib.hid (HF.out.upW hb)
      have HB1 := Lib.hid (h1.1.rowB)
      clear hb
      go_wp2_with fail
      clear h1
      refine (adds_any _ _ _ _ lp lq _ HP.out HQ.out (Nat.le_refl _) (Nat.le_refl _) HPM.out HQM.out).mono ?_
      rintro e w70 ⟨b2, rfl, h1, hb⟩
      replace HB := Lib.hid (HB.out.trans (hb.mono HB.out.size))
      replace HD := Lib.hid (HD.out.upW hb)
      replace HF := Lib.hid (HF.out.upW hb)
      replace HB1 := Lib.hid (HB1.out.upW hb)
      have HB2 := Lib.hid (h1.1.rowB)
      clear hb
      go_wp2_with fail
      clear h1 HP HQ
      refine (smS_w _ _ (addL lp lq) _ HB1.out HB2.out HAD.out).mono ?_
      rintro e w71 ⟨rfl, hb⟩
      replace HB := Lib.hid (HB.out.trans (hb.mono HB.out.size))
      replace HD := Lib.hid (HD.out.upW hb)
      replace HF := Lib.hid (HF.out.upW hb)
      clear hb
      go_wp2_with fail
      clear HB1 HB2 HAD HPM HQM
      have HSL := Lib.hid (show (srwL mf fi).length ≤ maxLen by have := srwL_len mf fi; unfold maxLen; omega)
      refine (srwi_any _ _ mf fi _ HF.out (Nat.le_refl _) HFA.out.fit).mono ?_
      rintro e w72 ⟨c1, rfl, h1, hb⟩
      replace HB := Lib.hid (HB.out.trans (hb.mono HB.out.size))
      replace HD := Lib.hid (HD.out.upW hb)
      replace HF := Lib.hid (HF.out.upW hb)
      have HC1 := Lib.hid (h1.1.rowB)
      clear hb
      go_wp2_with fail
      clear h1
      refine (srws_any _ _ mf fi _ HF.out (Nat.le_refl _) HFA.out.fit).mono ?_
      rintro e w73 ⟨c2, rfl, h1, hb⟩
      replace HB := Lib.hid (HB.out.trans (hb.mono HB.out.size))
      replace HD := Lib.hid (HD.out.upW hb)
      replace HC1 := Lib.hid (HC1.out.upW hb)
      have HC2 := Lib.hid (h1.1.rowB)
      clear hb
      go_wp2_with fail
      clear h1 HF
      refine (smS_w _ _ (srwL mf fi) _ HC1.out HC2.out HSL.out).mono ?_
      rintro e w74 ⟨rfl, hb⟩
      replace HB := Lib.hid (HB.out.trans (hb.mono HB.out.size))
      replace HD := Lib.hid (HD.out.upW hb)
      clear hb
      go_wp2_with fail
      clear HC1 HC2 HSL
      have HRL := Lib.hid (show (rhoL md).length ≤ maxLen by have := rhoL_len md; unfold maxLen; omega)
      refine (rhoi_any _ _ md _ HD.out (Nat.le_refl _) HDA.out.fit).mono ?_
      rintro e w75 ⟨d1, rfl, h1, hb⟩
      replace HB := Lib.hid (HB.out.trans (hb.mono HB.out.size))
      replace HD := Lib.hid (HD.out.upW hb)
      have HD1 := Lib.hid (h1.1.rowB)
      clear hb
      go_wp2_with fail
      clear h1
      refine (rhos_any _ _ md _ HD.out (Nat.le_refl _) HDA.out.fit).mono ?_
      rintro e w76 ⟨d2, rfl, h1, hb⟩
      replace HB := Lib.hid (HB.out.trans (hb.mono HB.out.size))
      replace HD1 := Lib.hid (HD1.out.upW hb)
      have HD2 := Lib.hid (h1.1.rowB)
      clear hb
      go_wp2_with fail
      clear h1 HD
      refine (smS_w _ _ (rhoL md) _ HD1.out HD2.out HRL.out).mono ?_
      rintro e w77 ⟨rfl, hb⟩
      replace HB := Lib.hid (HB.out.trans (hb.mono HB.out.size))
      clear hb
      go_wp2_with fail
      go_ret
      exact ⟨rfl, HB.out⟩
  · have HC1 := Lib.hid (HISC.out true (isB_yes hI))
    subst h1
    have heq : ((n2 : Int) == (n2 : Int)) = true := by simp
    have hgt : decide (1 < n2) = true := decide_eq_true h2
    have HBR2 := Lib.hid (HBR.out hI rfl)
    clear hI HCS HISC HBR hwb
    refine (HC1.out _ HX.out).mono ?_
    rintro e w78 ⟨rfl, hb⟩
    replace HB := Lib.hid (HB.out.trans (hb.mono HB.out.size))
    replace HX := Lib.hid (HX.out.upW hb)
    replace HY := Lib.hid (HY.out.upW hb)
    clear hb
    go_wp2_with fail
    clear HC1
    refine (at_any w.heap.size _ ca len ccap hl (HC.out.below HB.out) 7 (by omega)).mono ?_
    rintro e wa ⟨r1, hr1, rfl, rfl⟩
    obtain ⟨j, hj, hjn⟩ : ∃ j : Nat, (r1 : Int) % (n2 : Int) = (j : Int) ∧ j < n2 := ⟨r1 % n2, by omega, Nat.mod_lt _ (by omega)⟩
    go_wp2_with fail
    simp only [hj]
    refine (at_any w.heap.size _ ca len ccap hl (HC.out.below HB.out) 8 (by omega)).mono ?_
    rintro e wa ⟨r2, hr2, rfl, rfl⟩
    obtain ⟨t, ht, htn⟩ : ∃ t : Nat, (r2 : Int) % ((n2 : Int) - 1) = (t : Int) ∧ t < n2 - 1 := ⟨r2 % (n2 - 1), by rw [← Int.ofNat_one, ← Int.ofNat_sub (by omega)]; exact (Int.natCast_emod _ _).symm, Nat.mod_lt _ (by omega)⟩
    have ejt : ((j + 1 + t : Nat) : Int) = (j : Int) + 1 + t := by omega
    obtain ⟨k, hk, hkn⟩ : ∃ k : Nat, ((j : Int) + 1 + (t : Int)) % (n2 : Int) = (k : Int) ∧ k < n2 := ⟨(j + 1 + t) % n2, by rw [← ejt]; exact (Int.natCast_emod _ _).symm, Nat.mod_lt _ (by omega)⟩
    clear ejt
    go_wp2_with fail
    have HB3 := Lib.hid (HBR2.out j k hjn hkn)
    have HBOJ := Lib.hid (HBO.out j k)
    obtain ⟨hbr1, hbr2⟩ := bond_range m j k
    clear HBR2 HBO ht htn hr1 hr2 hj
    generalize bond m j k = bv at *
    refine (HBOJ.out _ HX.out).mono ?_
    rintro e w79 ⟨rfl, hb⟩
    replace HB := Lib.hid (HB.out.trans (hb.mono HB.out.size))
    replace HX := Lib.hid (HX.out.upW hb)
    replace HY := Lib.hid (HY.out.upW hb)
    clear hb
    simp only [hk]
    clear hk
    by_cases hbv : 0 < bv
    · have hd : decide (0 < bv) = true := decide_eq_true hbv
      have HB4 := Lib.hid (HB3.out hbv)
      have HLA := Lib.hid (altL_le j k bv); have HLB := Lib.hid (altL_le k j bv)
      have HA1 := Lib.hid (fun (wx : World) => alts_any j k bv wx (by omega) (by omega))
      have HA2 := Lib.hid (fun (wx : World) => alts_any k j bv wx (by omega) (by omega))
      have HC1 := Lib.hid (HAI.out (altL j k bv) HLA.out); have HC2 := Lib.hid (HAI.out (altL k j bv) HLB.out)
      rw [← HB4.out] at HC2
      have HCL := Lib.hid (show (actL m (altL j k bv) l).length ≤ maxLen by rw [actL_len, HN2.out]; exact HLM.out)
      clear HB3 HB4 HAI HLA HLB hbv
      generalize altL j k bv = w1a at *
      generalize altL k j bv = w2a at *
      generalize actL m w1a l = act at *
      go_wp2_with fail
      refine (HA1.out _).mono ?_
      rintro e w80 ⟨e1, rfl, h1, hb⟩
      replace HB := Lib.hid (HB.out.trans (hb.mono HB.out.size))
      replace HX := Lib.hid (HX.out.upW hb)
      replace HY := Lib.hid (HY.out.upW hb)
      have HE1 := Lib.hid (h1.1.rowB)
      clear hb
      go_wp2_with fail
      clear h1
      refine (HC1.out _ _ HX.out HE1.out HY.out).mono ?_
      rintro e w81 ⟨e2, rfl, h1, hb⟩
      replace HB := Lib.hid (HB.out.trans (hb.mono HB.out.size))
      replace HX := Lib.hid (HX.out.upW hb)
      replace HY := Lib.hid (HY.out.upW hb)
      have HE2 := Lib.hid (h1.1.rowB)
      clear hb
      go_wp2_with fail
      clear h1 HE1
      refine (HA2.out _).mono ?_
      rintro e w82 ⟨e3, rfl, h1, hb⟩
      replace HB := Lib.hid (HB.out.trans (hb.mono HB.out.size))
      replace HX := Lib.hid (HX.out.upW hb)
      replace HY := Lib.hid (HY.out.upW hb)
      replace HE2 := Lib.hid (HE2.out.upW hb)
      have HE3 := Lib.hid (h1.1.rowB)
      clear hb
      go_wp2_with fail
      clear h1
      refine (HC2.out _ _ HX.out HE3.out HY.out).mono ?_
      rintro e w83 ⟨e4, rfl, h1, hb⟩
      replace HB := Lib.hid (HB.out.trans (hb.mono HB.out.size))
      replace HX := Lib.hid (HX.out.upW hb)
      replace HY := Lib.hid (HY.out.upW hb)
      replace HE2 := Lib.hid (HE2.out.upW hb)
      have HE4 := Lib.hid (h1.1.rowB)
      clear hb
      go_wp2_with fail
      clear h1 HE3
      refine (smS_w _ _ act _ HE2.out HE4.out HCL.out).mono ?_
      rintro e w84 ⟨rfl, hb⟩
      replace HB := Lib.hid (HB.out.trans (hb.mono HB.out.size))
      replace HX := Lib.hid (HX.out.upW hb)
      replace HY := Lib.hid (HY.out.upW hb)
      clear hb
      go_wp2_with fail
      clear HE2 HE4 HCL HA1 HA2 HC1 HC2
      refine (drawAc_any w.heap.size _ _ len hl (HC.out.below HB.out) HB.out.size).mono ?_
      rintro e w85 ⟨xd, zw, yu, md, wsd, ld, rfl, hb, h1, h2, h3, h4, h5, h6⟩
      replace HB := Lib.hid (HB.out.trans (hb.mono HB.out.size))
      replace HX := Lib.hid (HX.out.upW hb)
      replace HY := Lib.hid (HY.out.upW hb)
      have HD := Lib.hid (h1)
      have HDA := Lib.hid (h2)
      have HW := Lib.hid (h3)
      have HWL := Lib.hid (h4)
      have HU := Lib.hid (h5)
      have HUL := Lib.hid (h6)
      clear hb
      go_wp2_with fail
      clear h1 h2 h3 h4 h5 h6
      refine (HFI.out _ HY.out (tab_below HTB.out HB.out)).mono ?_
      rintro e w86 ⟨rfl, hb⟩
      replace HB := Lib.hid (HB.out.trans (hb.mono HB.out.size))
      replace HX := Lib.hid (HX.out.upW hb)
      replace HY := Lib.hid (HY.out.upW hb)
      replace HD := Lib.hid (HD.out.upW hb)
      replace HW := Lib.hid (HW.out.upW hb)
      replace HU := Lib.hid (HU.out.upW hb)
      clear hb
      go_wp2_with fail
      refine (HPI.out _ HX.out (tab_below HTB.out HB.out)).mono ?_
      rintro e w87 ⟨z, rfl, h1, hb⟩
      replace HB := Lib.hid (HB.out.trans (hb.mono HB.out.size))
      replace HX := Lib.hid (HX.out.upW hb)
      replace HY := Lib.hid (HY.out.upW hb)
      replace HD := Lib.hid (HD.out.upW hb)
      replace HW := Lib.hid (HW.out.upW hb)
      replace HU := Lib.hid (HU.out.upW hb)
      have HZ := Lib.hid (h1.1.rowB)
      clear hb
      go_wp2_with fail
      clear h1 HFI HPI
      refine (drawPwt_any w.heap.size _ _ len hl (HC.out.below HB.out) HB.out.size).mono ?_
      rintro e w88 ⟨xe, me, ts, rfl, hb, h1, h2, h3⟩
      replace HB := Lib.hid (HB.out.trans (hb.mono HB.out.size))
      replace HX := Lib.hid (HX.out.upW hb)
      replace HY := Lib.hid (HY.out.upW hb)
      replace HD := Lib.hid (HD.out.upW hb)
      replace HW := Lib.hid (HW.out.upW hb)
      replace HU := Lib.hid (HU.out.upW hb)
      replace HZ := Lib.hid (HZ.out.upW hb)
      have HE := Lib.hid (h1)
      have HEA := Lib.hid (h2)
      clear hb
      go_wp2_with fail
      have hts : ts.size ≤ 1048576 := by omega
      have HQI := Lib.hid (fun (wx : World) (hx : MatB wx.heap.size wx xe me) (ht : Lib.TabIs Tryz.prog wx "internal/strconv.uint64pow10" .u64 Lib.pow10Tab) => pwti_any _ xe me ts wx hx (Nat.le_refl _) HEA.out.fit hts ht)
      have HQS := Lib.hid (fun (wx : World) (hx : MatB wx.heap.size wx xe me) => pwts_any _ xe me ts wx hx (Nat.le_refl _) HEA.out.fit hts)
      clear h1 h2 h3 hts
      generalize pwtL me ts.data.toList = pl at *
      generalize pwtB me ts.data.toList = pb at *
      refine (HQI.out _ HE.out (tab_below HTB.out HB.out)).mono ?_
      rintro e w89 ⟨z1, rfl, h1, hb⟩
      replace HB := Lib.hid (HB.out.trans (hb.mono HB.out.size))
      replace HX := Lib.hid (HX.out.upW hb)
      replace HY := Lib.hid (HY.out.upW hb)
      replace HD := Lib.hid (HD.out.upW hb)
      replace HW := Lib.hid (HW.out.upW hb)
      replace HU := Lib.hid (HU.out.upW hb)
      replace HZ := Lib.hid (HZ.out.upW hb)
      replace HE := Lib.hid (HE.out.upW hb)
      clear hb
      go_wp2_with fail
      clear h1
      refine (HQS.out _ HE.out).mono ?_
      rintro e w90 ⟨z2, rfl, h1, hb⟩
      replace HB := Lib.hid (HB.out.trans (hb.mono HB.out.size))
      replace HX := Lib.hid (HX.out.upW hb)
      replace HY := Lib.hid (HY.out.upW hb)
      replace HD := Lib.hid (HD.out.upW hb)
      replace HW := Lib.hid (HW.out.upW hb)
      replace HU := Lib.hid (HU.out.upW hb)
      replace HZ := Lib.hid (HZ.out.upW hb)
      clear hb
      go_wp2_with fail
      clear h1 HE HEA HQI HQS
      refine (drawAd_any w.heap.size _ _ len hl (HC.out.below HB.out) HB.out.size).mono ?_
      rintro e w91 ⟨xp, xq, lp, lq, rfl, hb, h1, h2, h3, h4⟩
      replace HB := Lib.hid (HB.out.trans (hb.mono HB.out.size))
      replace HX := Lib.hid (HX.out.upW hb)
      replace HY := Lib.hid (HY.out.upW hb)
      replace HD := Lib.hid (HD.out.upW hb)
      replace HW := Lib.hid (HW.out.upW hb)
      replace HU := Lib.hid (HU.out.upW hb)
      replace HZ := Lib.hid (HZ.out.upW hb)
      have HP := Lib.hid (h1)
      have HPL := Lib.hid (h2)
      have HQ := Lib.hid (h3)
      have HQL := Lib.hid (h4)
      clear hb
      go_wp2_with fail
      clear h1 h2 h3 h4
      refine (drawSr_any w.heap.size _ _ len hl (HC.out.below HB.out) HB.out.size).mono ?_
      rintro e w92 ⟨xf, mf, fi, rfl, hb, h1, h2⟩
      replace HB := Lib.hid (HB.out.trans (hb.mono HB.out.size))
      replace HX := Lib.hid (HX.out.upW hb)
      replace HY := Lib.hid (HY.out.upW hb)
      replace HD := Lib.hid (HD.out.upW hb)
      replace HW := Lib.hid (HW.out.upW hb)
      replace HU := Lib.hid (HU.out.upW hb)
      replace HZ := Lib.hid (HZ.out.upW hb)
      replace HP := Lib.hid (HP.out.upW hb)
      replace HQ := Lib.hid (HQ.out.upW hb)
      have HF := Lib.hid (h1)
      have HFA := Lib.hid (h2)
      clear hb
      clear h1 h2
      have hpb : (pb == pb) = true := by simp
      have hwb2 : (wb == wb) = true := by simp
      have hfs : (fs.toList == fs.toList) = true := by simp
      have HDM := Lib.hid (show wsd.length ≤ 1048576 by have := HWL.out; omega)
      have HUM := Lib.hid (show ld.length ≤ 1048576 by have := HUL.out; omega)
      have HAL := Lib.hid (show (actL md wsd ld).length ≤ maxLen by rw [actL_len]; have := HUL.out; unfold maxLen; omega)
      go_wp2_with fail
      refine (acti_any _ _ _ _ _ _ md wsd ld _ HD.out HW.out HU.out (Nat.le_refl _) (Nat.le_refl _) (Nat.le_refl _) HDA.out.fit HDM.out HUM.out).mono ?_
      rintro e w93 ⟨a1, rfl, h1, hb⟩
      replace HB := Lib.hid (HB.out.trans (hb.mono HB.out.size))
      replace HX := Lib.hid (HX.out.upW hb)
      replace HY := Lib.hid (HY.out.upW hb)
      replace HD := Lib.hid (HD.out.upW hb)
      replace HW := Lib.hid (HW.out.upW hb)
      replace HU := Lib.hid (HU.out.upW hb)
      replace HZ := Lib.hid (HZ.out.upW hb)
      replace HP := Lib.hid (HP.out.upW hb)
      replace HQ := Lib.hid (HQ.out.upW hb)
      replace HF := Lib.hid (HF.out.upW hb)
      have HA1 := Lib.hid (h1.1.rowB)
      clear hb
      go_wp2_with fail
      clear h1
      refine (acts_any _ _ _ _ _ _ md wsd ld _ HD.out HW.out HU.out (Nat.le_refl _) (Nat.le_refl _) (Nat.le_refl _) HDA.out.fit HDM.out HUM.out).mono ?_
      rintro e w94 ⟨a2, rfl, h1, hb⟩
      replace HB := Lib.hid (HB.out.trans (hb.mono HB.out.size))
      replace HX := Lib.hid (HX.out.upW hb)
      replace HY := Lib.hid (HY.out.upW hb)
      replace HD := Lib.hid (HD.out.upW hb)
      replace HZ := Lib.hid (HZ.out.upW hb)
      replace HP := Lib.hid (HP.out.upW hb)
      replace HQ := Lib.hid (HQ.out.upW hb)
      replace HF := Lib.hid (HF.out.upW hb)
      replace HA1 := Lib.hid (HA1.out.upW hb)
      have HA2 := Lib.hid (h1.1.rowB)
      clear hb
      go_wp2_with fail
      clear h1 HW HU
      refine (smS_w _ _ (actL md wsd ld) _ HA1.out HA2.out HAL.out).mono ?_
      rintro e w95 ⟨rfl, hb⟩
      replace HB := Lib.hid (HB.out.trans (hb.mono HB.out.size))
      replace HX := Lib.hid (HX.out.upW hb)
      replace HY := Lib.hid (HY.out.upW hb)
      replace HD := Lib.hid (HD.out.upW hb)
      replace HZ := Lib.hid (HZ.out.upW hb)
      replace HP := Lib.hid (HP.out.upW hb)
      replace HQ := Lib.hid (HQ.out.upW hb)
      replace HF := Lib.hid (HF.out.upW hb)
      clear hb
      go_wp2_with fail
      clear HA1 HA2 HAL HDM HUM
      refine (HFS.out _ HY.out).mono ?_
      rintro e w96 ⟨rfl, hb⟩
      replace HB := Lib.hid (HB.out.trans (hb.mono HB.out.size))
      replace HX := Lib.hid (HX.out.upW hb)
      replace HY := Lib.hid (HY.out.upW hb)
      replace HD := Lib.hid (HD.out.upW hb)
      replace HZ := Lib.hid (HZ.out.upW hb)
      replace HP := Lib.hid (HP.out.upW hb)
      replace HQ := Lib.hid (HQ.out.upW hb)
      replace HF := Lib.hid (HF.out.upW hb)
      clear hb
      go_wp2_with fail
      clear HFS
      cases wb
      case' true => rw [HZL.out rfl] at HZ
      all_goals
        clear hwb2 HZL
        have hwb2 : (true == true) = true := rfl
        have hwb3 : (false == false) = true := rfl
        refine (HIS.out _ HX.out HY.out).mono ?_
        rintro e w97 ⟨rfl, hb⟩
        replace HB := Lib.hid (HB.out.trans (hb.mono HB.out.size))
        replace HY := Lib.hid (HY.out.upW hb)
        replace HD := Lib.hid (HD.out.upW hb)
        replace HZ := Lib.hid (HZ.out.upW hb)
        replace HP := Lib.hid (HP.out.upW hb)
        replace HQ := Lib.hid (HQ.out.upW hb)
        replace HF := Lib.hid (HF.out.upW hb)
        clear hb
        go_wp2_with fail
        clear HIS HII HX
        try (refine (smS_w _ _ l _ HZ.out HY.out (by rw [HN2.out]; exact HLM.out)).mono ?_; rintro e wq ⟨rfl, hb⟩; replace HB := Lib.hid (HB.out.trans (hb.mono HB.out.size)); replace HD := Lib.hid (HD.out.upW hb); replace HP := Lib.hid (HP.out.upW hb); replace HQ := Lib.hid (HQ.out.upW hb); replace HF := Lib.hid (HF.out.upW hb); clear hb; go_wp2_with fail)
        clear HZ HY
        have HPM := Lib.hid (show lp.length ≤ 1048576 by have := HPL.out; omega)
        have HQM := Lib.hid (show lq.length ≤ 1048576 by have := HQL.out; omega)
        have HAD := Lib.hid (show (addL lp lq).length ≤ maxLen by have := addL_len lp lq; have := HPL.out; unfold maxLen; omega)
        refine (addi_any _ _ _ _ lp lq _ HP.out HQ.out (Nat.le_refl _) (Nat.le_refl _) HPM.out HQM.out).mono ?_
        rintro e w98 ⟨b1, rfl, h1, hb⟩
        replace HB := Lib.hid (HB.out.trans (hb.mono HB.out.size))
        replace HD := Lib.hid (HD.out.upW hb)
        replace HP := Lib.hid (HP.out.upW hb)
        replace HQ := Lib.hid (HQ.out.upW hb)
        replace HF := Lib.hid (HF.out.upW hb)
        have HB1 := Lib.hid (h1.1.rowB)
        clear hb
        go_wp2_with fail
        clear h1
        refine (adds_any _ _ _ _ lp lq _ HP.out HQ.out (Nat.le_refl _) (Nat.le_refl _) HPM.out HQM.out).mono ?_
        rintro e w99 ⟨b2, rfl, h1, hb⟩
        replace HB := Lib.hid (HB.out.trans (hb.mono HB.out.size))
        replace HD := Lib.hid (HD.out.upW hb)
        replace HF := Lib.hid (HF.out.upW hb)
        replace HB1 := Lib.hid (HB1.out.upW hb)
        have HB2 := Lib.hid (h1.1.rowB)
        clear hb
        go_wp2_with fail
        clear h1 HP HQ
        refine (smS_w _ _ (addL lp lq) _ HB1.out HB2.out HAD.out).mono ?_
        rintro e w100 ⟨rfl, hb⟩
        replace HB := Lib.hid (HB.out.trans (hb.mono HB.out.size))
        replace HD := Lib.hid (HD.out.upW hb)
        replace HF := Lib.hid (HF.out.upW hb)
        clear hb
        go_wp2_with fail
        clear HB1 HB2 HAD HPM HQM
        have HSL := Lib.hid (show (srwL mf fi).length ≤ maxLen by have := srwL_len mf fi; unfold maxLen; omega)
        refine (srwi_any _ _ mf fi _ HF.out (Nat.le_refl _) HFA.out.fit).mono ?_
        rintro e w101 ⟨c1, rfl, h1, hb⟩
        replace HB := Lib.hid (HB.out.trans (hb.mono HB.out.size))
        replace HD := Lib.hid (HD.out.upW hb)
        replace HF := Lib.hid (HF.out.upW hb)
        have HC1 := Lib.hid (h1.1.rowB)
        clear hb
        go_wp2_with fail
        clear h1
        refine (srws_any _ _ mf fi _ HF.out (Nat.le_refl _) HFA.out.fit).mono ?_
        rintro e w102 ⟨c2, rfl, h1, hb⟩
        replace HB := Lib.hid (HB.out.trans (hb.mono HB.out.size))
        replace HD := Lib.hid (HD.out.upW hb)
        replace HC1 := Lib.hid (HC1.out.upW hb)
        have HC2 := Lib.hid (h1.1.rowB)
        clear hb
        go_wp2_with fail
        clear h1 HF
        refine (smS_w _ _ (srwL mf fi) _ HC1.out HC2.out HSL.out).mono ?_
        rintro e w103 ⟨rfl, hb⟩
        replace HB := Lib.hid (HB.out.trans (hb.mono HB.out.size))
        replace HD := Lib.hid (HD.out.upW hb)
        clear hb
        go_wp2_with fail
        clear HC1 HC2 HSL
        have HRL := Lib.hid (show (rhoL md).length ≤ maxLen by have := rhoL_len md; unfold maxLen; omega)
        refine (rhoi_any _ _ md _ HD.out (Nat.le_refl _) HDA.out.fit).mono ?_
        rintro e w104 ⟨d1, rfl, h1, hb⟩
        replace HB := Lib.hid (HB.out.trans (hb.mono HB.out.size))
        replace HD := Lib.hid (HD.out.upW hb)
        have HD1 := Lib.hid (h1.1.rowB)
        clear hb
        go_wp2_with fail
        clear h1
        refine (rhos_any _ _ md _ HD.out (Nat.le_refl _) HDA.out.fit).mono ?_
        rintro e w105 ⟨d2, rfl, h1, hb⟩
        replace HB := Lib.hid (HB.out.trans (hb.mono HB.out.size))
        replace HD1 := Lib.hid (HD1.out.upW hb)
        have HD2 := Lib.hid (h1.1.rowB)
        clear hb
        go_wp2_with fail
        clear h1 HD
        refine (smS_w _ _ (rhoL md) _ HD1.out HD2.out HRL.out).mono ?_
        rintro e w106 ⟨rfl, hb⟩
        replace HB := Lib.hid (HB.out.trans (hb.mono HB.out.size))
        clear hb
        go_wp2_with fail
        go_ret
        exact ⟨rfl, HB.out⟩
    · have hd : decide (0 < bv) = false := decide_eq_false hbv
      clear HB3 HAI
      go_wp2_with fail
      refine (drawAc_any w.heap.size _ _ len hl (HC.out.below HB.out) HB.out.size).mono ?_
      rintro e w107 ⟨xd, zw, yu, md, wsd, ld, rfl, hb, h1, h2, h3, h4, h5, h6⟩
      replace HB := Lib.hid (HB.out.trans (hb.mono HB.out.size))
      replace HX := Lib.hid (HX.out.upW hb)
      replace HY := Lib.hid (HY.out.upW hb)
      have HD := Lib.hid (h1)
      have HDA := Lib.hid (h2)
      have HW := Lib.hid (h3)
      have HWL := Lib.hid (h4)
      have HU := Lib.hid (h5)
      have HUL := Lib.hid (h6)
      clear hb
      go_wp2_with fail
      clear h1 h2 h3 h4 h5 h6
      refine (HFI.out _ HY.out (tab_below HTB.out HB.out)).mono ?_
      rintro e w108 ⟨rfl, hb⟩
      replace HB := Lib.hid (HB.out.trans (hb.mono HB.out.size))
      replace HX := Lib.hid (HX.out.upW hb)
      replace HY := Lib.hid (HY.out.upW hb)
      replace HD := Lib.hid (HD.out.upW hb)
      replace HW := Lib.hid (HW.out.upW hb)
      replace HU := Lib.hid (HU.out.upW hb)
      clear hb
      go_wp2_with fail
      refine (HPI.out _ HX.out (tab_below HTB.out HB.out)).mono ?_
      rintro e w109 ⟨z, rfl, h1, hb⟩
      replace HB := Lib.hid (HB.out.trans (hb.mono HB.out.size))
      replace HX := Lib.hid (HX.out.upW hb)
      replace HY := Lib.hid (HY.out.upW hb)
      replace HD := Lib.hid (HD.out.upW hb)
      replace HW := Lib.hid (HW.out.upW hb)
      replace HU := Lib.hid (HU.out.upW hb)
      have HZ := Lib.hid (h1.1.rowB)
      clear hb
      go_wp2_with fail
      clear h1 HFI HPI
      refine (drawPwt_any w.heap.size _ _ len hl (HC.out.below HB.out) HB.out.size).mono ?_
      rintro e w110 ⟨xe, me, ts, rfl, hb, h1, h2, h3⟩
      replace HB := Lib.hid (HB.out.trans (hb.mono HB.out.size))
      replace HX := Lib.hid (HX.out.upW hb)
      replace HY := Lib.hid (HY.out.upW hb)
      replace HD := Lib.hid (HD.out.upW hb)
      replace HW := Lib.hid (HW.out.upW hb)
      replace HU := Lib.hid (HU.out.upW hb)
      replace HZ := Lib.hid (HZ.out.upW hb)
      have HE := Lib.hid (h1)
      have HEA := Lib.hid (h2)
      clear hb
      go_wp2_with fail
      have hts : ts.size ≤ 1048576 := by omega
      have HQI := Lib.hid (fun (wx : World) (hx : MatB wx.heap.size wx xe me) (ht : Lib.TabIs Tryz.prog wx "internal/strconv.uint64pow10" .u64 Lib.pow10Tab) => pwti_any _ xe me ts wx hx (Nat.le_refl _) HEA.out.fit hts ht)
      have HQS := Lib.hid (fun (wx : World) (hx : MatB wx.heap.size wx xe me) => pwts_any _ xe me ts wx hx (Nat.le_refl _) HEA.out.fit hts)
      clear h1 h2 h3 hts
      generalize pwtL me ts.data.toList = pl at *
      generalize pwtB me ts.data.toList = pb at *
      refine (HQI.out _ HE.out (tab_below HTB.out HB.out)).mono ?_
      rintro e w111 ⟨z1, rfl, h1, hb⟩
      replace HB := Lib.hid (HB.out.trans (hb.mono HB.out.size))
      replace HX := Lib.hid (HX.out.upW hb)
      replace HY := Lib.hid (HY.out.upW hb)
      replace HD := Lib.hid (HD.out.upW hb)
      replace HW := Lib.hid (HW.out.upW hb)
      replace HU := Lib.hid (HU.out.upW hb)
      replace HZ := Lib.hid (HZ.out.upW hb)
      replace HE := Lib.hid (HE.out.upW hb)
      clear hb
      go_wp2_with fail
      clear h1
      refine (HQS.out _ HE.out).mono ?_
      rintro e w112 ⟨z2, rfl, h1, hb⟩
      replace HB := Lib.hid (HB.out.trans (hb.mono HB.out.size))
      replace HX := Lib.hid (HX.out.upW hb)
      replace HY := Lib.hid (HY.out.upW hb)
      replace HD := Lib.hid (HD.out.upW hb)
      replace HW := Lib.hid (HW.out.upW hb)
      replace HU := Lib.hid (HU.out.upW hb)
      replace HZ := Lib.hid (HZ.out.upW hb)
      clear hb
      go_wp2_with fail
      clear h1 HE HEA HQI HQS
      refine (drawAd_any w.heap.size _ _ len hl (HC.out.below HB.out) HB.out.size).mono ?_
      rintro e w113 ⟨xp, xq, lp, lq, rfl, hb, h1, h2, h3, h4⟩
      replace HB := Lib.hid (HB.out.trans (hb.mono HB.out.size))
      replace HX := Lib.hid (HX.out.upW hb)
      replace HY := Lib.hid (HY.out.upW hb)
      replace HD := Lib.hid (HD.out.upW hb)
      replace HW := Lib.hid (HW.out.upW hb)
      replace HU := Lib.hid (HU.out.upW hb)
      replace HZ := Lib.hid (HZ.out.upW hb)
      have HP := Lib.hid (h1)
      have HPL := Lib.hid (h2)
      have HQ := Lib.hid (h3)
      have HQL := Lib.hid (h4)
      clear hb
      go_wp2_with fail
      clear h1 h2 h3 h4
      refine (drawSr_any w.heap.size _ _ len hl (HC.out.below HB.out) HB.out.size).mono ?_
      rintro e w114 ⟨xf, mf, fi, rfl, hb, h1, h2⟩
      replace HB := Lib.hid (HB.out.trans (hb.mono HB.out.size))
      replace HX := Lib.hid (HX.out.upW hb)
      replace HY := Lib.hid (HY.out.upW hb)
      replace HD := Lib.hid (HD.out.upW hb)
      replace HW := Lib.hid (HW.out.upW hb)
      replace HU := Lib.hid (HU.out.upW hb)
      replace HZ := Lib.hid (HZ.out.upW hb)
      replace HP := Lib.hid (HP.out.upW hb)
      replace HQ := Lib.hid (HQ.out.upW hb)
      have HF := Lib.hid (h1)
      have HFA := Lib.hid (h2)
      clear hb
      clear h1 h2
      have hpb : (pb == pb) = true := by simp
      have hwb2 : (wb == wb) = true := by simp
      have hfs : (fs.toList == fs.toList) = true := by simp
      have HDM := Lib.hid (show wsd.length ≤ 1048576 by have := HWL.out; omega)
      have HUM := Lib.hid (show ld.length ≤ 1048576 by have := HUL.out; omega)
      have HAL := Lib.hid (show (actL md wsd ld).length ≤ maxLen by rw [actL_len]; have := HUL.out; unfold maxLen; omega)
      go_wp2_with fail
      refine (acti_any _ _ _ _ _ _ md wsd ld _ HD.out HW.out HU.out (Nat.le_refl _) (Nat.le_refl _) (Nat.le_refl _) HDA.out.fit HDM.out HUM.out).mono ?_
      rintro e w115 ⟨a1, rfl, h1, hb⟩
      replace HB := Lib.hid (HB.out.trans (hb.mono HB.out.size))
      replace HX := Lib.hid (HX.out.upW hb)
      replace HY := Lib.hid (HY.out.upW hb)
      replace HD := Lib.hid (HD.out.upW hb)
      replace HW := Lib.hid (HW.out.upW hb)
      replace HU := Lib.hid (HU.out.upW hb)
      replace HZ := Lib.hid (HZ.out.upW hb)
      replace HP := Lib.hid (HP.out.upW hb)
      replace HQ := Lib.hid (HQ.out.upW hb)
      replace HF := Lib.hid (HF.out.upW hb)
      have HA1 := Lib.hid (h1.1.rowB)
      clear hb
      go_wp2_with fail
      clear h1
      refine (acts_any _ _ _ _ _ _ md wsd ld _ HD.out HW.out HU.out (Nat.le_refl _) (Nat.le_refl _) (Nat.le_refl _) HDA.out.fit HDM.out HUM.out).mono ?_
      rintro e w116 ⟨a2, rfl, h1, hb⟩
      replace HB := Lib.hid (HB.out.trans (hb.mono HB.out.size))
      replace HX := Lib.hid (HX.out.upW hb)
      replace HY := Lib.hid (HY.out.upW hb)
      replace HD := Lib.hid (HD.out.upW hb)
      replace HZ := Lib.hid (HZ.out.upW hb)
      replace HP := Lib.hid (HP.out.upW hb)
      replace HQ := Lib.hid (HQ.out.upW hb)
      replace HF := Lib.hid (HF.out.upW hb)
      replace HA1 := Lib.hid (HA1.out.upW hb)
      have HA2 := Lib.hid (h1.1.rowB)
      clear hb
      go_wp2_with fail
      clear h1 HW HU
      refine (smS_w _ _ (actL md wsd ld) _ HA1.out HA2.out HAL.out).mono ?_
      rintro e w117 ⟨rfl, hb⟩
      replace HB := Lib.hid (HB.out.trans (hb.mono HB.out.size))
      replace HX := Lib.hid (HX.out.upW hb)
      replace HY := Lib.hid (HY.out.upW hb)
      replace HD := Lib.hid (HD.out.upW hb)
      replace HZ := Lib.hid (HZ.out.upW hb)
      replace HP := Lib.hid (HP.out.upW hb)
      replace HQ := Lib.hid (HQ.out.upW hb)
      replace HF := Lib.hid (HF.out.upW hb)
      clear hb
      go_wp2_with fail
      clear HA1 HA2 HAL HDM HUM
      refine (HFS.out _ HY.out).mono ?_
      rintro e w118 ⟨rfl, hb⟩
      replace HB := Lib.hid (HB.out.trans (hb.mono HB.out.size))
      replace HX := Lib.hid (HX.out.upW hb)
      replace HY := Lib.hid (HY.out.upW hb)
      replace HD := Lib.hid (HD.out.upW hb)
      replace HZ := Lib.hid (HZ.out.upW hb)
      replace HP := Lib.hid (HP.out.upW hb)
      replace HQ := Lib.hid (HQ.out.upW hb)
      replace HF := Lib.hid (HF.out.upW hb)
      clear hb
      go_wp2_with fail
      clear HFS
      cases wb
      case' true => rw [HZL.out rfl] at HZ
      all_goals
        clear hwb2 HZL
        have hwb2 : (true == true) = true := rfl
        have hwb3 : (false == false) = true := rfl
        refine (HIS.out _ HX.out HY.out).mono ?_
        rintro e w119 ⟨rfl, hb⟩
        replace HB := Lib.hid (HB.out.trans (hb.mono HB.out.size))
        replace HY := Lib.hid (HY.out.upW hb)
        replace HD := Lib.hid (HD.out.upW hb)
        replace HZ := Lib.hid (HZ.out.upW hb)
        replace HP := Lib.hid (HP.out.upW hb)
        replace HQ := Lib.hid (HQ.out.upW hb)
        replace HF := Lib.hid (HF.out.upW hb)
        clear hb
        go_wp2_with fail
        clear HIS HII HX
        try (refine (smS_w _ _ l _ HZ.out HY.out (by rw [HN2.out]; exact HLM.out)).mono ?_; rintro e wq ⟨rfl, hb⟩; replace HB := Lib.hid (HB.out.trans (hb.mono HB.out.size)); replace HD := Lib.hid (HD.out.upW hb); replace HP := Lib.hid (HP.out.upW hb); replace HQ := Lib.hid (HQ.out.upW hb); replace HF := Lib.hid (HF.out.upW hb); clear hb; go_wp2_with fail)
        clear HZ HY
        have HPM := Lib.hid (show lp.length ≤ 1048576 by have := HPL.out; omega)
        have HQM := Lib.hid (show lq.length ≤ 1048576 by have := HQL.out; omega)
        have HAD := Lib.hid (show (addL lp lq).length ≤ maxLen by have := addL_len lp lq; have := HPL.out; unfold maxLen; omega)
        refine (addi_any _ _ _ _ lp lq _ HP.out HQ.out (Nat.le_refl _) (Nat.le_refl _) HPM.out HQM.out).mono ?_
        rintro e w120 ⟨b1, rfl, h1, hb⟩
        replace HB := Lib.hid (HB.out.trans (hb.mono HB.out.size))
        replace HD := Lib.hid (HD.out.upW hb)
        replace HP := Lib.hid (HP.out.upW hb)
        replace HQ := Lib.hid (HQ.out.upW hb)
        replace HF := Lib.hid (HF.out.upW hb)
        have HB1 := Lib.hid (h1.1.rowB)
        clear hb
        go_wp2_with fail
        clear h1
        refine (adds_any _ _ _ _ lp lq _ HP.out HQ.out (Nat.le_refl _) (Nat.le_refl _) HPM.out HQM.out).mono ?_
        rintro e w121 ⟨b2, rfl, h1, hb⟩
        replace HB := Lib.hid (HB.out.trans (hb.mono HB.out.size))
        replace HD := Lib.hid (HD.out.upW hb)
        replace HF := Lib.hid (HF.out.upW hb)
        replace HB1 := Lib.hid (HB1.out.upW hb)
        have HB2 := Lib.hid (h1.1.rowB)
        clear hb
        go_wp2_with fail
        clear h1 HP HQ
        refine (smS_w _ _ (addL lp lq) _ HB1.out HB2.out HAD.out).mono ?_
        rintro e w122 ⟨rfl, hb⟩
        replace HB := Lib.hid (HB.out.trans (hb.mono HB.out.size))
        replace HD := Lib.hid (HD.out.upW hb)
        replace HF := Lib.hid (HF.out.upW hb)
        clear hb
        go_wp2_with fail
        clear HB1 HB2 HAD HPM HQM
        have HSL := Lib.hid (show (srwL mf fi).length ≤ maxLen by have := srwL_len mf fi; unfold maxLen; omega)
        refine (srwi_any _ _ mf fi _ HF.out (Nat.le_refl _) HFA.out.fit).mono ?_
        rintro e w123 ⟨c1, rfl, h1, hb⟩
        replace HB := Lib.hid (HB.out.trans (hb.mono HB.out.size))
        replace HD := Lib.hid (HD.out.upW hb)
        replace HF := Lib.hid (HF.out.upW hb)
        have HC1 := Lib.hid (h1.1.rowB)
        clear hb
        go_wp2_with fail
        clear h1
        refine (srws_any _ _ mf fi _ HF.out (Nat.le_refl _) HFA.out.fit).mono ?_
        rintro e w124 ⟨c2, rfl, h1, hb⟩
        replace HB := Lib.hid (HB.out.trans (hb.mono HB.out.size))
        replace HD := Lib.hid (HD.out.upW hb)
        replace HC1 := Lib.hid (HC1.out.upW hb)
        have HC2 := Lib.hid (h1.1.rowB)
        clear hb
        go_wp2_with fail
        clear h1 HF
        refine (smS_w _ _ (srwL mf fi) _ HC1.out HC2.out HSL.out).mono ?_
        rintro e w125 ⟨rfl, hb⟩
        replace HB := Lib.hid (HB.out.trans (hb.mono HB.out.size))
        replace HD := Lib.hid (HD.out.upW hb)
        clear hb
        go_wp2_with fail
        clear HC1 HC2 HSL
        have HRL := Lib.hid (show (rhoL md).length ≤ maxLen by have := rhoL_len md; unfold maxLen; omega)
        refine (rhoi_any _ _ md _ HD.out (Nat.le_refl _) HDA.out.fit).mono ?_
        rintro e w126 ⟨d1, rfl, h1, hb⟩
        replace HB := Lib.hid (HB.out.trans (hb.mono HB.out.size))
        replace HD := Lib.hid (HD.out.upW hb)
        have HD1 := Lib.hid (h1.1.rowB)
        clear hb
        go_wp2_with fail
        clear h1
        refine (rhos_any _ _ md _ HD.out (Nat.le_refl _) HDA.out.fit).mono ?_
        rintro e w127 ⟨d2, rfl, h1, hb⟩
        replace HB := Lib.hid (HB.out.trans (hb.mono HB.out.size))
        replace HD1 := Lib.hid (HD1.out.upW hb)
        have HD2 := Lib.hid (h1.1.rowB)
        clear hb
        go_wp2_with fail
        clear h1 HD
        refine (smS_w _ _ (rhoL md) _ HD1.out HD2.out HRL.out).mono ?_
        rintro e w128 ⟨rfl, hb⟩
        replace HB := Lib.hid (HB.out.trans (hb.mono HB.out.size))
        clear hb
        go_wp2_with fail
        go_ret
        exact ⟨rfl, HB.out⟩
end Go.Proofs.YtfjeghalkmkgoaaGreatDoor
