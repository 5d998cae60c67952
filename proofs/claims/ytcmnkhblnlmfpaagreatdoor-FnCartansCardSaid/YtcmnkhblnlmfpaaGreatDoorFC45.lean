/-
  What the law on matrices asks of a type's name.
  Proved here: for every byte slice, the law FnCartans answers true: matrices drawn from it are read back from their texts, bonds do not depend on the order of points nor on the transposition, types bear their names and joins have the parts of both: where the variable partNames holds the names that the program text lays, and the library's table of powers of ten its numbers.
  A law that takes bytes: what the argument is, as the draws want it.
-/
import Derived.Test.YtcmnkhblnlmfpaaGreatDoorFC31
import Derived.Test.YtcmnkhblnlmfpaaGreatDoorFC38
import Derived.Test.YtcmnkhblnlmfpaaGreatDoorFC39
import Derived.Test.YtcmnkhblnlmfpaaGreatDoorFC44
import Derived.ProofKit
import Derived.Test.YtcmnkhblnlmfpaaGreatDoorFC28
namespace Go.Proofs.YtcmnkhblnlmfpaaGreatDoor
open Go.RowKit

theorem type_str {l : List UInt8} {nm : ByteArray} (hl : l = nm.data.toList) (h : typeB l = true) : nm = ⟨(nameO (typeM l)).toArray⟩ := by
  rw [type_name h, hl]
theorem type_fit (l : List UInt8) : RowsFit (typeM l) := by
  by_cases h : typeB l = true
  · have h1 : l ∈ namesL := by
      unfold typeB typeAt at h
      rw [Option.isSome_map] at h
      obtain ⟨p, hp⟩ := Option.isSome_iff_exists.1 h
      have h2 := List.find?_some hp
      have h3 := keys_named p (List.mem_of_find?_eq_some hp)
      rw [beq_iff_eq] at h2
      rw [h2] at h3; exact h3
    obtain ⟨t, ht, he⟩ := List.getElem_of_mem h1
    have e : namesL.getD t [] = l := by rw [List.getD_eq_getElem?_getD, List.getElem?_eq_getElem ht]; exact he
    rw [← e]
    exact fit_of_small (sq_small (isC_sq (isD_isC (types_ok t ht))))
  · have e : typeM l = [] := by
      unfold typeB at h
      unfold typeM
      cases hT : typeAt l with
      | none => rfl
      | some p => rw [hT] at h; exact absurd rfl h
    rw [e]
    exact ⟨by unfold maxLen; simp, fun j hj => by simp at hj⟩
end Go.Proofs.YtcmnkhblnlmfpaaGreatDoor
namespace Go.Proofs.YtcmnkhblnlmfpaaGreatDoor
open Go.ChangeShapes Go.WideShapes Go.ChangeAt Go.ChangeMaps Go.RowKit

set_option maxHeartbeats 16000000 in
set_option maxRecDepth 100000 in
theorem fc_law (a : Option Addr) (len cap : Nat) (w : World) (hl : len ≤ 1048576) (hcode : CodeB w.heap.size w (.slice a len cap) len) (htab : NamesIs w namesL) (hpow : Lib.TabIs Tryz.prog w "internal/strconv.uint64pow10" .u64 Lib.pow10Tab) :
    Calls Tryz.prog 4 #[.slice a len cap] w fun e w' => e = .returned (.bool true) ∧ Below w.heap.size w w' := by
  have HC := Lib.hid hcode; clear hcode
  have HT := Lib.hid htab; clear htab
  have HTB := Lib.hid hpow; clear hpow
  have hbig : decide (1048576 < (len : Int)) = false := by rw [decide_eq_false_iff_not]; omega
  go_enter Tryz.func4, Tryz.ntmps4
  go_wp2_with fail
  refine (big_any _ a len cap (by omega)).mono ?_
  rintro e w0 ⟨rfl, rfl⟩
  have HB := Lib.hid (Below.refl w.heap.size w)
  go_wp2_with fail
  refine (drawFmt_any w.heap.size _ _ len hl (HC.out.below HB.out) HB.out.size).mono ?_
  rintro e w1 ⟨x, m, rfl, hb, h1, h2⟩
  replace HB := Lib.hid (HB.out.trans (hb.mono HB.out.size))
  have HX := Lib.hid (h1.mat)
  have HA := Lib.hid (h2)
  clear hb
  go_wp2_with fail
  clear h1 h2
  obtain ⟨s, hs⟩ : ∃ s : ByteArray, s = ⟨(fmtM m).toArray⟩ := ⟨_, rfl⟩
  have hsl : s.size ≤ 1000 := by rw [hs]; show (Array.size _) ≤ _; simpa using fmtM_short m
  have HSL := Lib.hid (show s.data.toList = fmtM m by rw [hs])
  have HFI := Lib.hid (fun (wx : World) (hx : MatB wx.heap.size wx x m) (ht : Lib.TabIs Tryz.prog wx "internal/strconv.uint64pow10" .u64 Lib.pow10Tab) => fmi_any _ x m wx hx (Nat.le_refl _) HA.out.fit ht)
  have HFS := Lib.hid (fun (wx : World) (hx : MatB wx.heap.size wx x m) => fms_any _ x m wx hx (Nat.le_refl _) HA.out.fit)
  rw [← hs] at HFI HFS
  have HPC := Lib.hid (fun (wx : World) (ht : Lib.TabIs Tryz.prog wx "internal/strconv.uint64pow10" .u64 Lib.pow10Tab) => pci_any s wx (by omega) ht)
  have HPF := Lib.hid (pc_fmt m)
  rw [HSL.out] at HPC
  have HIS := Lib.hid (fun c (hc : isB m = c) (wx : World) (hx : MatB wx.heap.size wx x m) => isc_w _ x m c hc wx hx HA.out.fit)
  have HIM := Lib.hid (fun c (hc : isB m = c) (wx : World) (hx : MatB wx.heap.size wx x m) => icm_w _ x m c hc wx hx HA.out.fit)
  clear hs HSL
  refine (HFI.out _ HX.out (tab_below HTB.out HB.out)).mono ?_
  rintro e w2 ⟨rfl, hb⟩
  replace HB := Lib.hid (HB.out.trans (hb.mono HB.out.size))
  replace HX := Lib.hid (HX.out.up hb)
  clear hb
  go_wp2_with fail
  refine (HPC.out _ (tab_below HTB.out HB.out)).mono ?_
  rintro e w3 ⟨z, rfl, h1, hb⟩
  replace HB := Lib.hid (HB.out.trans (hb.mono HB.out.size))
  replace HX := Lib.hid (HX.out.up hb)
  have HZ := Lib.hid (h1.matB)
  clear hb
  clear h1
  rw [HPF.out.1]
  go_wp2_with fail
  refine (HFS.out _ HX.out).mono ?_
  rintro e w4 ⟨rfl, hb⟩
  replace HB := Lib.hid (HB.out.trans (hb.mono HB.out.size))
  replace HX := Lib.hid (HX.out.up hb)
  replace HZ := Lib.hid (HZ.out.up hb)
  clear hb
  go_wp2_with fail
  by_cases hI : IsC m
  case' pos =>
    have hb1 : isB m = true := isB_yes hI
    rw [HPF.out.2 hI] at HZ
    have HZB := Lib.hid hb1
  case' neg =>
    have hb1 : isB m = false := isB_no hI
    have HZB := Lib.hid hb1
  all_goals
    clear hI HPF HFI HFS HPC
    rw [hb1]
    clear hb1
    go_wp2_with fail
    refine (HIS.out _ HZB.out _ HX.out).mono ?_
    rintro e w5 ⟨rfl, hb⟩
    replace HB := Lib.hid (HB.out.trans (hb.mono HB.out.size))
    replace HX := Lib.hid (HX.out.up hb)
    replace HZ := Lib.hid (HZ.out.up hb)
    clear hb
    go_wp2_with fail
    all_goals (try (refine (smSS_same _ _ m _ HZ.out HX.out HA.out.fit).mono ?_; rintro e wq ⟨rfl, hb⟩; replace HB := Lib.hid (HB.out.trans (hb.mono HB.out.size)); replace HX := Lib.hid (HX.out.up hb); clear hb; go_wp2_with fail))
    all_goals clear HZ
    refine (HIM.out _ HZB.out _ HX.out).mono ?_
    rintro e w6 ⟨rfl, hb⟩
    replace HB := Lib.hid (HB.out.trans (hb.mono HB.out.size))
    replace HX := Lib.hid (HX.out.up hb)
    clear hb
    go_wp2_with fail
    refine (HIS.out _ HZB.out _ HX.out).mono ?_
    rintro e w7 ⟨rfl, hb⟩
    replace HB := Lib.hid (HB.out.trans (hb.mono HB.out.size))
    replace HX := Lib.hid (HX.out.up hb)
    clear hb
    go_wp2_with fail
    clear HIS HIM HZB
    refine (tri_any _ _ m _ HX.out (Nat.le_refl _) HA.out.fit).mono ?_
    rintro e w8 ⟨y1, rfl, h1, hb⟩
    replace HB := Lib.hid (HB.out.trans (hb.mono HB.out.size))
    replace HX := Lib.hid (HX.out.up hb)
    have H1 := Lib.hid (h1.matB)
    clear hb
    go_wp2_with fail
    clear h1
    refine (trs_any _ _ m _ HX.out (Nat.le_refl _) HA.out.fit).mono ?_
    rintro e w9 ⟨y2, rfl, h1, hb⟩
    replace HB := Lib.hid (HB.out.trans (hb.mono HB.out.size))
    replace H1 := Lib.hid (H1.out.up hb)
    have H2 := Lib.hid (h1.matB)
    clear hb
    go_wp2_with fail
    clear h1 HX
    refine (smSS_same _ _ (trM m) _ H1.out H2.out (fit_of_small (small_of (trM_small m)))).mono ?_
    rintro e w10 ⟨rfl, hb⟩
    replace HB := Lib.hid (HB.out.trans (hb.mono HB.out.size))
    clear hb
    go_wp2_with fail
    clear H1 H2 HA
    refine (drawPc_any w.heap.size _ _ len hl (HC.out.below HB.out) HB.out.size).mono ?_
    rintro e w11 ⟨t, ht, rfl, hb⟩
    replace HB := Lib.hid (HB.out.trans (hb.mono HB.out.size))
    clear hb
    go_wp2_with fail
    have hts : t.size ≤ 1048576 := by omega
    have HPI := Lib.hid (fun (wx : World) (h : Lib.TabIs Tryz.prog wx "internal/strconv.uint64pow10" .u64 Lib.pow10Tab) => pci_any t wx hts h)
    have HPS := Lib.hid (fun (wx : World) => pcs_any t wx hts)
    generalize pcB t.data.toList = pb at *
    generalize pcM t.data.toList = pm at *
    have hpb : (pb != pb) = false := by simp
    refine (HPI.out _ (tab_below HTB.out HB.out)).mono ?_
    rintro e w12 ⟨z1, rfl, h1, hb⟩
    replace HB := Lib.hid (HB.out.trans (hb.mono HB.out.size))
    clear hb
    go_wp2_with fail
    clear h1
    refine (HPS.out _).mono ?_
    rintro e w13 ⟨z2, rfl, h1, hb⟩
    replace HB := Lib.hid (HB.out.trans (hb.mono HB.out.size))
    clear hb
    go_wp2_with fail
    clear h1 HPI HPS
    refine (drawBond_any w.heap.size _ _ len hl (HC.out.below HB.out) HB.out.size).mono ?_
    rintro e w14 ⟨xd, dm, di, dj, rfl, hb, h1, h2⟩
    replace HB := Lib.hid (HB.out.trans (hb.mono HB.out.size))
    have HD := Lib.hid (h1.mat)
    have HDA := Lib.hid (h2)
    clear hb
    go_wp2_with fail
    clear h1 h2
    have HBI := Lib.hid (fun (wx : World) (hx : MatB wx.heap.size wx xd dm) => bondi_b _ xd dm di dj wx hx HDA.out.fit)
    have HBS := Lib.hid (fun (wx : World) (hx : MatB wx.heap.size wx xd dm) => bonds_b _ xd dm di dj wx hx HDA.out.fit)
    have HBJ := Lib.hid (fun (wx : World) (hx : MatB wx.heap.size wx xd dm) => bondi_b _ xd dm dj di wx hx HDA.out.fit)
    have HBT := Lib.hid (fun (v : Value) (wx : World) (hx : MatB wx.heap.size wx v (trM dm)) => bondi_b _ v (trM dm) di dj wx hx (fit_of_small (small_of (trM_small dm))))
    rw [bond_sym] at HBJ
    rw [bond_tr] at HBT
    generalize bond dm di dj = bv at *
    have hbv : (bv != bv) = false := by simp
    refine (HBI.out _ HD.out).mono ?_
    rintro e w15 ⟨rfl, hb⟩
    replace HB := Lib.hid (HB.out.trans (hb.mono HB.out.size))
    replace HD := Lib.hid (HD.out.up hb)
    clear hb
    go_wp2_with fail
    refine (HBS.out _ HD.out).mono ?_
    rintro e w16 ⟨rfl, hb⟩
    replace HB := Lib.hid (HB.out.trans (hb.mono HB.out.size))
    replace HD := Lib.hid (HD.out.up hb)
    clear hb
    go_wp2_with fail
    refine (HBI.out _ HD.out).mono ?_
    rintro e w17 ⟨rfl, hb⟩
    replace HB := Lib.hid (HB.out.trans (hb.mono HB.out.size))
    replace HD := Lib.hid (HD.out.up hb)
    clear hb
    go_wp2_with fail
    refine (HBJ.out _ HD.out).mono ?_
    rintro e w18 ⟨rfl, hb⟩
    replace HB := Lib.hid (HB.out.trans (hb.mono HB.out.size))
    replace HD := Lib.hid (HD.out.up hb)
    clear hb
    go_wp2_with fail
    refine (HBI.out _ HD.out).mono ?_
    rintro e w19 ⟨rfl, hb⟩
    replace HB := Lib.hid (HB.out.trans (hb.mono HB.out.size))
    replace HD := Lib.hid (HD.out.up hb)
    clear hb
    go_wp2_with fail
    refine (tri_any _ _ dm _ HD.out (Nat.le_refl _) HDA.out.fit).mono ?_
    rintro e w20 ⟨y3, rfl, h1, hb⟩
    replace HB := Lib.hid (HB.out.trans (hb.mono HB.out.size))
    have H1 := Lib.hid (h1.matB)
    clear hb
    go_wp2_with fail
    clear h1
    refine (HBT.out _ _ H1.out).mono ?_
    rintro e w21 ⟨rfl, hb⟩
    replace HB := Lib.hid (HB.out.trans (hb.mono HB.out.size))
    clear hb
    go_wp2_with fail
    clear H1 HD HDA HBI HBS HBJ HBT hpb hbv
    refine (drawTy_any w.heap.size _ _ len hl (HC.out.below HB.out) HB.out.size).mono ?_
    rintro e w22 ⟨nm, hnm, rfl, hb⟩
    replace HB := Lib.hid (HB.out.trans (hb.mono HB.out.size))
    clear hb
    go_wp2_with fail
    obtain ⟨l, hln⟩ : ∃ l, l = nm.data.toList := ⟨_, rfl⟩
    have HLN := Lib.hid hln
    have HTI := Lib.hid (fun (wx : World) => tyi_any nm wx)
    have HTS := Lib.hid (fun (wx : World) => tys_any nm wx)
    rw [← hln] at HTI HTS
    clear hln hnm
    have HNM := Lib.hid (fun (h : typeB l = true) => type_str HLN.out h)
    have HTF := Lib.hid (type_fit l)
    refine (HTI.out _).mono ?_
    rintro e w23 ⟨z3, rfl, h1, hb⟩
    replace HB := Lib.hid (HB.out.trans (hb.mono HB.out.size))
    have HY := Lib.hid (h1.matB)
    clear hb
    go_wp2_with fail
    clear h1
    refine (HTS.out _).mono ?_
    rintro e w24 ⟨z4, rfl, h1, hb⟩
    replace HB := Lib.hid (HB.out.trans (hb.mono HB.out.size))
    replace HY := Lib.hid (HY.out.up hb)
    have HZ := Lib.hid (h1.matB)
    clear hb
    clear h1 HTI HTS
    generalize typeM l = tm at *
    generalize typeB l = tb at *
    have htb : (tb != tb) = false := by simp
    go_wp2_with fail
    refine (smSS_same _ _ tm _ HY.out HZ.out HTF.out).mono ?_
    rintro e w25 ⟨rfl, hb⟩
    replace HB := Lib.hid (HB.out.trans (hb.mono HB.out.size))
    replace HZ := Lib.hid (HZ.out.up hb)
    clear hb
    clear HY htb
    cases tb
    case' false =>
      go_wp2_with fail
    case' true =>
      have HNN := Lib.hid (HNM.out rfl)
      go_wp2_with fail
      refine (nmoi_e _ tm nm HNN.out _ HZ.out HTF.out (NamesIs.below HT.out HB.out)).mono ?_
      rintro e w26 ⟨rfl, hb⟩
      replace HB := Lib.hid (HB.out.trans (hb.mono HB.out.size))
      clear hb
      clear HNN
      go_wp2_with fail
    all_goals
      clear HZ HNM HTF HLN
      refine (drawJo_any w.heap.size _ _ len hl (HC.out.below HB.out) HB.out.size).mono ?_
      rintro e w27 ⟨xa, xb, am, bm, rfl, hb, h1, h2, h3, h4⟩
      replace HB := Lib.hid (HB.out.trans (hb.mono HB.out.size))
      have HP := Lib.hid (h1.mat)
      have HPA := Lib.hid (h2)
      have HQ := Lib.hid (h3.mat)
      have HQA := Lib.hid (h4)
      clear hb
      go_wp2_with fail
      clear h1 h2 h3 h4
      refine (joi_any _ _ _ _ am bm _ HP.out HQ.out (Nat.le_refl _) (Nat.le_refl _) HPA.out.fit HQA.out.fit).mono ?_
      rintro e w28 ⟨xu, rfl, h1, hb⟩
      replace HB := Lib.hid (HB.out.trans (hb.mono HB.out.size))
      replace HP := Lib.hid (HP.out.up hb)
      replace HQ := Lib.hid (HQ.out.up hb)
      have HU := Lib.hid (h1.matB)
      clear hb
      go_wp2_with fail
      clear h1
      refine (jos_any _ _ _ _ am bm _ HP.out HQ.out (Nat.le_refl _) (Nat.le_refl _) HPA.out.fit HQA.out.fit).mono ?_
      rintro e w29 ⟨xv, rfl, h1, hb⟩
      replace HB := Lib.hid (HB.out.trans (hb.mono HB.out.size))
      replace HP := Lib.hid (HP.out.up hb)
      replace HQ := Lib.hid (HQ.out.up hb)
      replace HU := Lib.hid (HU.out.up hb)
      have HV := Lib.hid (h1.matB)
      clear hb
      go_wp2_with fail
      clear h1
      refine (drawEq_any w.heap.size _ _ len hl (HC.out.below HB.out) HB.out.size).mono ?_
      rintro e w30 ⟨xe, xf, em, fm, rfl, hb, h1, h2, h3, h4⟩
      replace HB := Lib.hid (HB.out.trans (hb.mono HB.out.size))
      replace HP := Lib.hid (HP.out.up hb)
      replace HQ := Lib.hid (HQ.out.up hb)
      replace HU := Lib.hid (HU.out.up hb)
      replace HV := Lib.hid (HV.out.up hb)
      have HE := Lib.hid (h1.mat)
      have HEA := Lib.hid (h2)
      have HF := Lib.hid (h3.mat)
      have HFA := Lib.hid (h4)
      clear hb
      clear h1 h2 h3 h4
      have HJF := Lib.hid (fit_of_small (small_of (joinM_small am bm)))
      have HJP := Lib.hid (fun (h : JoinOk am bm) => join_parts h)
      have HJI := Lib.hid (fun (h : JoinOk am bm) => isB_yes (join_isC h))
      have hp3 := partsV_len (joinM am bm)
      have hp1 := partsV_len am
      have hp2 := partsV_len bm
      have HEQ := Lib.hid (fun (wx : World) (h1 : MatB wx.heap.size wx xe em) (h2 : MatB wx.heap.size wx xf fm) => eqci_b _ _ xe xf em fm wx h1 h2 HEA.out.fit HFA.out.fit)
      have HES := Lib.hid (fun (wx : World) (h1 : MatB wx.heap.size wx xe em) (h2 : MatB wx.heap.size wx xf fm) => eqcs_b _ _ xe xf em fm wx h1 h2 HEA.out.fit HFA.out.fit)
      generalize eqM em fm = qb at *
      have hqb : (qb == qb) = true := by simp
      have HJV := Lib.hid (fun (v : Value) (wx : World) (hx : MatB wx.heap.size wx v (joinM am bm)) => parts_any _ v (joinM am bm) wx hx (Nat.le_refl _) HJF.out)
      have HJC := Lib.hid (fun (v : Value) (c : Bool) (hc : isB (joinM am bm) = c) (wx : World) (hx : MatB wx.heap.size wx v (joinM am bm)) => icm_w _ v (joinM am bm) c hc wx hx HJF.out)
      by_cases hj : JoinOk am bm
      case' pos =>
        rw [joinB_yes hj]
        have hL := HJP.out hj
        have hic := HJI.out hj
      case' neg =>
        rw [joinB_no hj]
      all_goals
        clear hj HJP HJI
        generalize joinM am bm = jm at *
        try (have HIC := Lib.hid hic; clear hic)
        try (have HL := Lib.hid hL; clear hL)
        go_wp2_with fail
        refine (smSS_same _ _ jm _ HU.out HV.out HJF.out).mono ?_
        rintro e w31 ⟨rfl, hb⟩
        replace HB := Lib.hid (HB.out.trans (hb.mono HB.out.size))
        replace HP := Lib.hid (HP.out.up hb)
        replace HQ := Lib.hid (HQ.out.up hb)
        replace HV := Lib.hid (HV.out.up hb)
        replace HE := Lib.hid (HE.out.up hb)
        replace HF := Lib.hid (HF.out.up hb)
        clear hb
        clear HU
        go_wp2_with fail
        first
          | (refine (HJC.out _ true HIC.out _ HV.out).mono ?_
             rintro e wa ⟨rfl, hb⟩
             replace HB := Lib.hid (HB.out.trans (hb.mono HB.out.size))
             replace HP := Lib.hid (HP.out.up hb)
             replace HQ := Lib.hid (HQ.out.up hb)
             replace HV := Lib.hid (HV.out.up hb)
             replace HE := Lib.hid (HE.out.up hb)
             replace HF := Lib.hid (HF.out.up hb)
             clear hb
             go_wp2_with fail
             refine (HJV.out _ _ HV.out).mono ?_
             rintro e wb ⟨pv, rfl, h1, hb⟩
             replace HB := Lib.hid (HB.out.trans (hb.mono HB.out.size))
             replace HP := Lib.hid (HP.out.up hb)
             replace HQ := Lib.hid (HQ.out.up hb)
             replace HE := Lib.hid (HE.out.up hb)
             replace HF := Lib.hid (HF.out.up hb)
             obtain ⟨pva, pvc, rfl⟩ := h1.matB.slice
             clear hb h1
             go_wp2_with fail
             refine (parts_any _ _ am _ HP.out (Nat.le_refl _) HPA.out.fit).mono ?_
             rintro e wc ⟨pa, rfl, h1, hb⟩
             replace HB := Lib.hid (HB.out.trans (hb.mono HB.out.size))
             replace HQ := Lib.hid (HQ.out.up hb)
             replace HE := Lib.hid (HE.out.up hb)
             replace HF := Lib.hid (HF.out.up hb)
             obtain ⟨paa, pac, rfl⟩ := h1.matB.slice
             clear hb h1
             go_wp2_with fail
             have hsum : ((((partsV am).length : Int) + ((partsV bm).length : Int))) = ((partsV jm).length : Int) := by rw [HL.out]; push_cast; rfl
             have HSUM := Lib.hid hsum; clear hsum
             generalize (partsV am).length = la at *
             generalize hlb : (partsV bm).length = lb at *
             generalize (partsV jm).length = lj at *
             have HLB := Lib.hid hlb; clear hlb
             have hq0 : ((lj : Int) == (la : Int) + (lb : Int)) = true := by rw [HSUM.out]; simp
             refine (parts_any _ _ bm _ HQ.out (Nat.le_refl _) HQA.out.fit).mono ?_
             rintro e wd ⟨pb, rfl, h1, hb⟩
             replace HB := Lib.hid (HB.out.trans (hb.mono HB.out.size))
             replace HE := Lib.hid (HE.out.up hb)
             replace HF := Lib.hid (HF.out.up hb)
             obtain ⟨pba, pbc, rfl⟩ := h1.matB.slice
             rw [HLB.out]
             clear hb h1
             go_wp2_with fail)
          | skip
        refine (HEQ.out _ HE.out HF.out).mono ?_
        rintro e w32 ⟨rfl, hb⟩
        replace HB := Lib.hid (HB.out.trans (hb.mono HB.out.size))
        replace HE := Lib.hid (HE.out.up hb)
        replace HF := Lib.hid (HF.out.up hb)
        clear hb
        go_wp2_with fail
        refine (HES.out _ HE.out HF.out).mono ?_
        rintro e w33 ⟨rfl, hb⟩
        replace HB := Lib.hid (HB.out.trans (hb.mono HB.out.size))
        clear hb
        go_wp2_with fail
        go_ret
        exact ⟨rfl, HB.out⟩
end Go.Proofs.YtcmnkhblnlmfpaaGreatDoor
namespace Go.Proofs.YtcmnkhblnlmfpaaGreatDoor
open Go.ChangeShapes Go.WideShapes Go.ChangeAt Go.ChangeMaps Go.RowKit

set_option maxRecDepth 100000 in
theorem code_open {H : Type} {enc : TypeId × Value → H} {W : World} {base : Nat} {v : Value} {d : DataW H} {ps : List MemPlace} (hval : Value.okWide Tryz.prog W .any base 22 v)
    (h : DataW.Trod enc Tryz.prog W 0 (fun _ => true) true 22 v d ps) : ∃ (a : Option Addr) (len cap : Nat), v = .slice a len cap ∧ len ≤ maxLen ∧ CodeB W.heap.size W v len := by
  obtain ⟨a0, len, cap, rfl⟩ := okWide_slice Tryz.underlying22 hval
  obtain ⟨fuel, hf⟩ := h
  have hc1 : Tryz.prog.cellsOf 5 = 1 := by kernel_rfl
  rcases open_ints Tryz.underlying22 Tryz.underlying5 hc1 hf with ⟨hcs, _⟩ | ⟨a, len', cap', zs, hcs, _, hl, hm, hz, _, hcell, hwz⟩
  · simp [Value.cells] at hcs
    obtain ⟨rfl, rfl, rfl⟩ := hcs
    exact ⟨none, 0, 0, rfl, Nat.zero_le _, Or.inl ⟨⟨none, 0, rfl⟩, rfl⟩⟩
  · simp [Value.cells] at hcs
    obtain ⟨rfl, rfl, rfl⟩ := hcs
    simp only [if_true] at hz
    refine ⟨some a, len, cap, rfl, by omega, ?_⟩
    by_cases hl0 : len = 0
    · subst hl0
      exact Or.inl ⟨⟨some a, cap, rfl⟩, rfl⟩
    · obtain ⟨b, off, spot⟩ := a
      have hspot : spot = none := by simpa [Addr.add] using World.cell?_spot (hcell 0 (by omega))
      subst hspot
      have hb : b < W.heap.size := by
        have h0 := hcell 0 (by omega)
        have := World.block_lt_of_cell? W _ h0
        simpa [Addr.add] using this
      refine Or.inr ⟨b, off, cap, rfl, hb, fun j hj => ?_⟩
      have hj' : j < zs.length := by omega
      have hcj := hcell j hj'
      have hadd : (⟨b, off, none⟩ : Addr).add j = ⟨b, off + j, none⟩ := by unfold Addr.add; split <;> simp_all
      rw [hadd] at hcj
      have hw := hwz (zs.getD j 0) (by
        rw [List.getD_eq_getElem?_getD, List.getElem?_eq_getElem hj']
        exact List.getElem_mem _)
      have hr : 0 ≤ zs.getD j 0 ∧ zs.getD j 0 ≤ 255 := by
        have h' : IntKind.u8.min ≤ zs.getD j 0 ∧ zs.getD j 0 ≤ IntKind.u8.max := by simpa [Lit.wf] using hw
        have h1 : IntKind.u8.max = 255 := by decide
        have h2 : IntKind.u8.min = 0 := by decide
        omega
      refine ⟨UInt8.ofNat (zs.getD j 0).toNat, ?_⟩
      rw [hcj, UInt8.toNat_ofNat']
      congr 2
      omega
end Go.Proofs.YtcmnkhblnlmfpaaGreatDoor
