/-
  Proved here: for every byte slice, the law FnDiagrams answers true: what is drawn from it is found isomorphic, symmetric and connected by the program as by the model, and the symmetries are closed under composition: where the variable partNames holds the names that the program text lays (the card ties them).
  A law that takes bytes: what the argument is, as the draws want it.
-/
import Derived.Test.YtppimgkampkfjaaGreatDoorFdg35
import Derived.Test.YtppimgkampkfjaaGreatDoorFdg18
import Derived.Test.YtppimgkampkfjaaGreatDoorFdg07
import Derived.Test.YtppimgkampkfjaaGreatDoorFdg10
import Derived.ProofKit
import Derived.Test.YtppimgkampkfjaaGreatDoorFdg32
namespace Go.Proofs.YtppimgkampkfjaaGreatDoor
open Go.ChangeShapes Go.WideShapes Go.ChangeAt Go.ChangeMaps Go.RowKit

set_option maxHeartbeats 16000000 in
set_option maxRecDepth 100000 in
theorem fd_law (a : Option Addr) (len cap : Nat) (w : World) (hl : len ≤ 1048576) (hcode : CodeB w.heap.size w (.slice a len cap) len) (htab : NamesIs w namesL) :
    Calls Tryz.prog 4 #[.slice a len cap] w fun e w' => e = .returned (.bool true) ∧ Below w.heap.size w w' := by
  have HC := Lib.hid hcode; clear hcode
  have HT := Lib.hid htab; clear htab
  have hbig : decide (1048576 < (len : Int)) = false := by rw [decide_eq_false_iff_not]; omega
  go_enter Tryz.func4, Tryz.ntmps4
  go_wp2_with fail
  refine (big_any _ a len cap (by omega)).mono ?_
  rintro e w0 ⟨rfl, rfl⟩
  have HB := Lib.hid (Below.refl w.heap.size w)
  go_wp2_with fail
  refine (drawIso_any w.heap.size _ _ len hl (HC.out.below HB.out) HB.out.size).mono ?_
  rintro e w1 ⟨x1, x2, a, b, rfl, hb, h1, h2, h3, h4⟩
  replace HB := Lib.hid (HB.out.trans (hb.mono HB.out.size))
  have HX := Lib.hid (h1.mat)
  have HY := Lib.hid (h3.mat)
  have HA := Lib.hid (h2)
  have HE := Lib.hid (h4)
  clear hb
  go_wp2_with fail
  clear h1 h2 h3 h4
  refine (aii_any _ _ _ _ a b _ HX.out HY.out (Nat.le_refl _) (Nat.le_refl _) HA.out.fit HE.out.fit).mono ?_
  rintro e w2 ⟨o, rfl, h1, hb⟩
  replace HB := Lib.hid (HB.out.trans (hb.mono HB.out.size))
  replace HX := Lib.hid (HX.out.up hb)
  replace HY := Lib.hid (HY.out.up hb)
  have HO := Lib.hid (h1.rowB)
  clear hb
  go_wp2_with fail
  clear h1
  refine (ais_any _ _ _ _ a b _ HX.out HY.out (Nat.le_refl _) (Nat.le_refl _) HA.out.fit HE.out.fit).mono ?_
  rintro e w3 ⟨p, rfl, h1, hb⟩
  replace HB := Lib.hid (HB.out.trans (hb.mono HB.out.size))
  replace HX := Lib.hid (HX.out.up hb)
  replace HY := Lib.hid (HY.out.up hb)
  replace HO := Lib.hid (HO.out.up hb)
  have HP := Lib.hid (h1.rowB)
  clear hb
  clear h1
  have HLO := Lib.hid (show (isoL a b).length ≤ maxLen by have := isoL_len a b; unfold maxLen; omega)
  have HALL := Lib.hid (fun h => iso_all (a := a) (b := b) h)
  generalize isoB a b = ib at *
  cases ib
  case' false =>
    go_wp2_with fail
    refine (smS_same _ _ (isoL a b) _ HO.out HP.out HLO.out).mono ?_
    rintro e w4 ⟨rfl, hb⟩
    replace HB := Lib.hid (HB.out.trans (hb.mono HB.out.size))
    clear hb
    go_wp2_with fail
  case' true =>
    obtain ⟨hrb, hrm, hnm, hfb, haf⟩ := HALL.out rfl
    go_wp2_with fail
    refine (smS_same _ _ (isoL a b) _ HO.out HP.out HLO.out).mono ?_
    rintro e w4 ⟨rfl, hb⟩
    replace HB := Lib.hid (HB.out.trans (hb.mono HB.out.size))
    replace HX := Lib.hid (HX.out.up hb)
    replace HY := Lib.hid (HY.out.up hb)
    replace HO := Lib.hid (HO.out.up hb)
    clear hb
    go_wp2_with fail
    have HR := Lib.hid (reli_any _ _ _ _ a (isoL a b) _ HX.out HO.out (Nat.le_refl _) (Nat.le_refl _) HA.out.fit HLO.out)
    rw [hrb, hrm] at HR
    clear hrb hrm
    refine (HR.out).mono ?_
    rintro e w5 ⟨xr, rfl, h1, hb⟩
    replace HB := Lib.hid (HB.out.trans (hb.mono HB.out.size))
    replace HX := Lib.hid (HX.out.up hb)
    replace HY := Lib.hid (HY.out.up hb)
    have HXR := Lib.hid (h1.matB)
    clear hb
    go_wp2_with fail
    clear h1 HR
    refine (smSS_same _ _ b _ HXR.out HY.out HE.out.fit).mono ?_
    rintro e w6 ⟨rfl, hb⟩
    replace HB := Lib.hid (HB.out.trans (hb.mono HB.out.size))
    replace HX := Lib.hid (HX.out.up hb)
    replace HY := Lib.hid (HY.out.up hb)
    clear hb
    go_wp2_with fail
    clear HXR
    obtain ⟨s, hs⟩ : ∃ s : ByteArray, s = ⟨(nameO a).toArray⟩ := ⟨_, rfl⟩
    refine (nmoi_e _ a s hs _ HX.out HA.out.fit (NamesIs.below HT.out HB.out)).mono ?_
    rintro e w7 ⟨rfl, hb⟩
    replace HB := Lib.hid (HB.out.trans (hb.mono HB.out.size))
    replace HX := Lib.hid (HX.out.up hb)
    replace HY := Lib.hid (HY.out.up hb)
    clear hb
    have HFB := Lib.hid hfb; have HAF := Lib.hid haf
    clear hfb haf
    by_cases hn : nameO a = []
    case' pos =>
      have hse := s_none hs hn
      have hcn := hnm hn
      clear hs hn hnm
      go_wp2_with fail
      have HR := Lib.hid (cons_any _ _ a _ HX.out (Nat.le_refl _) HA.out.fit)
      rw [hcn] at HR
      clear hcn
      refine (HR.out).mono ?_
      rintro e w8 ⟨rfl, hb⟩
      replace HB := Lib.hid (HB.out.trans (hb.mono HB.out.size))
      replace HX := Lib.hid (HX.out.up hb)
      replace HY := Lib.hid (HY.out.up hb)
      clear hb
      go_wp2_with fail
    case' neg =>
      have hse := s_some hs hn
      clear hs hn hnm
      go_wp2_with fail
    all_goals
      refine (fini_any _ _ a _ HX.out (Nat.le_refl _) HA.out.fit).mono ?_
      rintro e w9 ⟨rfl, hb⟩
      replace HB := Lib.hid (HB.out.trans (hb.mono HB.out.size))
      replace HX := Lib.hid (HX.out.up hb)
      replace HY := Lib.hid (HY.out.up hb)
      clear hb
      go_wp2_with fail
      have HR := Lib.hid (fini_any _ _ b _ HY.out (Nat.le_refl _) HE.out.fit)
      rw [HFB.out] at HR
      generalize finB a = fb at *
      have hne : (fb != fb) = false := by simp
      refine (HR.out).mono ?_
      rintro e w10 ⟨rfl, hb⟩
      replace HB := Lib.hid (HB.out.trans (hb.mono HB.out.size))
      replace HX := Lib.hid (HX.out.up hb)
      replace HY := Lib.hid (HY.out.up hb)
      clear hb
      go_wp2_with fail
      refine (affi_any _ _ a _ HX.out (Nat.le_refl _) HA.out.fit).mono ?_
      rintro e w11 ⟨rfl, hb⟩
      replace HB := Lib.hid (HB.out.trans (hb.mono HB.out.size))
      replace HX := Lib.hid (HX.out.up hb)
      replace HY := Lib.hid (HY.out.up hb)
      clear hb
      go_wp2_with fail
      have HR := Lib.hid (affi_any _ _ b _ HY.out (Nat.le_refl _) HE.out.fit)
      rw [HAF.out] at HR
      generalize affB (connB (partsV a).length) (minV a) = ab at *
      have hne2 : (ab != ab) = false := by simp
      refine (HR.out).mono ?_
      rintro e w12 ⟨rfl, hb⟩
      replace HB := Lib.hid (HB.out.trans (hb.mono HB.out.size))
      clear hb
      go_wp2_with fail
      clear HR
  all_goals
    refine (drawSym_any w.heap.size _ _ len hl (HC.out.below HB.out) HB.out.size).mono ?_
    rintro e w13 ⟨x3, c, rfl, hb, h1, h2⟩
    replace HB := Lib.hid (HB.out.trans (hb.mono HB.out.size))
    have HCM := Lib.hid (h1.mat)
    have HCA := Lib.hid (h2)
    clear hb
    go_wp2_with fail
    clear h1 h2
    refine (syi_any _ _ c _ HCM.out (Nat.le_refl _) HCA.out.fit).mono ?_
    rintro e w14 ⟨xl, rfl, h1, hb⟩
    replace HB := Lib.hid (HB.out.trans (hb.mono HB.out.size))
    replace HCM := Lib.hid (HCM.out.up hb)
    have HL := Lib.hid (h1.matB)
    clear hb
    obtain ⟨la, lcap, rfl⟩ := h1.matB.slice
    clear h1
    have HLF := Lib.hid (fit_of_small (small_of (obV_small c c)))
    have HSP := Lib.hid (fun i k hi hk => sym_prod (m := c) (i := i) (k := k) hi hk)
    have hl24 := obV_len c c
    have HSY := Lib.hid (fun wx hx => sys_any wx.heap.size _ c wx (HCM.out.up (w' := wx) hx) (Nat.le_refl _) HCA.out.fit)
    generalize hT : obV c c = T at *
    generalize hN : T.length = N at *
    have HN := Lib.hid hN; clear hN hT
    go_wp2_with fail
    refine (HSY.out _ (Below.refl _ _)).mono ?_
    rintro e w15 ⟨xs, rfl, h1, hb⟩
    replace HB := Lib.hid (HB.out.trans (hb.mono HB.out.size))
    replace HCM := Lib.hid (HCM.out.up hb)
    replace HL := Lib.hid (HL.out.up hb)
    have HS := Lib.hid (h1.matB)
    clear hb
    go_wp2_with fail
    clear h1 HSY
    refine (smSS_same _ _ T _ HL.out HS.out HLF.out).mono ?_
    rintro e w16 ⟨rfl, hb⟩
    replace HB := Lib.hid (HB.out.trans (hb.mono HB.out.size))
    replace HCM := Lib.hid (HCM.out.up hb)
    replace HL := Lib.hid (HL.out.up hb)
    clear hb
    clear HS
    go_wp2_with fail
    go_loopw [13] (fun i wr => ∃ (k : Nat) (wq : World), wq = wr ∧ k ≤ N ∧ k ≤ 6 ∧ i = .int .i64 k ∧ Below w16.heap.size w16 wq) (fun i _ => N - (intOf i).toNat)
    case atStart => exact ⟨0, _, rfl, Nat.zero_le _, by omega, rfl, Below.refl _ _⟩
    case round =>
      obtain ⟨i, wq, rfl, hi, hi6, rfl, hb⟩ := hrel
      have HBI := Lib.hid hb; clear hb
      by_cases hlt : i < N ∧ i < 6
      · obtain ⟨hlt, hlt6⟩ := hlt
        have hlt1 : decide (i < N) = true := decide_eq_true hlt
        have hlt2 : decide ((i : Int) < 6) = true := decide_eq_true (by omega)
        go_wp2_with fail
        go_loopw [14] (fun i wr => ∃ (k : Nat) (wq : World), wq = wr ∧ k ≤ N ∧ k ≤ 6 ∧ i = .int .i64 k ∧ Below w16.heap.size w16 wq) (fun i _ => N - (intOf i).toNat)
        case atStart => exact ⟨0, _, rfl, Nat.zero_le _, by omega, rfl, HBI.out⟩
        case round =>
          obtain ⟨k, wk, rfl, hk, hk6, rfl, hb⟩ := hrel
          have HBK := Lib.hid hb; clear hb
          by_cases hltk : k < N ∧ k < 6
          · obtain ⟨hltk, hltk6⟩ := hltk
            have hltk1 : decide (k < N) = true := decide_eq_true hltk
            have hltk2 : decide ((k : Int) < 6) = true := decide_eq_true (by omega)
            obtain ⟨n, P, hn4, hPn, hin, hkn, hPT, hx⟩ := HSP.out i k hlt hltk
            have HPN := Lib.hid hPn; have HPT := Lib.hid hPT; have HX := Lib.hid hx
            have HIN := Lib.hid hin; have HKN := Lib.hid hkn
            clear hPn hPT hx hin hkn
            have hBk := HBK.out.size
            go_wp2_with fail
            go_loopw [15, 16] (fun r j wr => ∃ (t : Nat) (wi : World), wi = wr ∧ t ≤ n ∧ j = .int .i64 t ∧ RowI wk.heap.size wi.heap.size wi r (P.take t) ∧ Below wk.heap.size wk wi) (fun _ j _ => n - (intOf j).toNat)
            case atStart => exact ⟨0, _, rfl, Nat.zero_le _, rfl, row_empty wk, (Below.refl _ _).alloc (Nat.le_refl _) _⟩
            case round =>
              obtain ⟨t, wi, rfl, ht, rfl, hR, hbi⟩ := hrel
              have HBT := Lib.hid hbi
              have hsz := hbi.size
              clear hbi
              have HBW := Lib.hid (HBK.out.trans (HBT.out.mono hBk))
              obtain ⟨b1, off1, rai, rcapi, rfl, hb1, hci, hri⟩ := (HL.out.below HBW.out (Nat.le_refl _)).rowAt hlt (by rw [HN.out]; exact hlt)
              obtain ⟨b2, off2, rak, rcapk, he2, hb2, hck, hrk⟩ := (HL.out.below HBW.out (Nat.le_refl _)).rowAt hltk (by rw [HN.out]; exact hltk)
              injection he2 with he2
              injection he2 with he21 he22
              subst he21
              subst he22
              rw [HIN.out] at hci hri
              rw [HKN.out] at hck hrk
              by_cases htn : t < n
              · have htn' : decide (t < n) = true := decide_eq_true htn
                obtain ⟨x, hxn, hxk, hxi⟩ := HX.out t htn
                obtain ⟨bk, offk, rfl, hbk, hcell1⟩ := hrk.getD htn
                obtain ⟨bi, offi, rfl, hbi, hcell2⟩ := hri.getD hxn
                rw [hxk] at hcell1
                rw [hxi] at hcell2
                have hst := take_snoc (P := P) (t := t) (by rw [HPN.out]; exact htn)
                have HST := Lib.hid hst
                have hrl : (P.take t).length + [P.getD t 0].length ≤ 4194304 := by rw [List.length_take]; simp; omega
                have HRL := Lib.hid hrl
                have HRI := Lib.hid hR
                clear hst hrl hR hxk hxi hri hrk
                generalize P.getD t 0 = z at *
                go_wp2_with fail
                go_region_law (refine step_lit z wi.heap.size ((HRI.out.alloc _).mono (Nat.le_refl _) (by simp)) (by simp; omega) (MapKept.heap_alloc _ _).1 HRL.out rfl rfl rfl rfl ?_; intro v3 w3 hr3 hb3 hz3)
                all_goals
                  rw [HST.out] at hr3
                  have HR3 := Lib.hid hr3
                  have HB3 := Lib.hid (hb3 wk wk.heap.size (Nat.le_refl _) (HBT.out.alloc hsz _).drew)
                  clear hr3 hb3 hz3
                  go_wp2_with fail
                  exact ⟨⟨t + 1, _, rfl, by omega, by go_num, HR3.out, HB3.out⟩, by simp [intOf]; omega⟩
              · obtain rfl : t = n := by omega
                have htn' : decide (t < t) = false := by simp
                rw [show P.take t = P from List.take_of_length_le (by rw [HPN.out]; exact Nat.le_refl _)] at hR
                have HRI := Lib.hid hR; clear hR hri hrk
                go_wp2_with fail
                refine (inl_yes _ _ T P _ ((HL.out.below HBW.out (Nat.le_refl _)).mono HBW.out.size) HRI.out.rowB HLF.out (by rw [HPN.out]; unfold maxLen; omega) HPT.out).mono ?_
                rintro e w3 ⟨rfl, hb⟩
                have HB3 := Lib.hid (HBW.out.trans (hb.mono HBW.out.size)); clear hb
                go_wp2_with fail
                exact ⟨⟨k + 1, _, rfl, by omega, by omega, by go_num, HB3.out⟩, by simp [intOf]; omega⟩
          · have hor : ¬ k < N ∨ (k < N ∧ ¬ k < 6) := by omega
            rcases hor with h | ⟨h, h6⟩
            · have hltk1 : decide (k < N) = false := decide_eq_false h
              go_wp2_with fail
              exact ⟨⟨i + 1, _, rfl, by omega, by omega, by go_num, HBK.out⟩, by simp [intOf]; omega⟩
            · have hltk1 : decide (k < N) = true := decide_eq_true h
              have hltk2 : decide ((k : Int) < 6) = false := decide_eq_false (by omega)
              go_wp2_with fail
              exact ⟨⟨i + 1, _, rfl, by omega, by omega, by go_num, HBK.out⟩, by simp [intOf]; omega⟩
      · have hgo : decide (i < N) = false ∨ (decide (i < N) = true ∧ decide ((i : Int) < 6) = false) := by
          by_cases h : i < N
          · exact Or.inr ⟨decide_eq_true h, decide_eq_false (by omega)⟩
          · exact Or.inl (decide_eq_false h)
        have HBZ := Lib.hid (HB.out.trans (HBI.out.mono HB.out.size))
        replace HB := HBZ
        replace HCM := Lib.hid ((HCM.out.below HBI.out (Nat.le_refl _)).mono HBI.out.size)
        clear HBZ hlt HL HLF HSP HBI HN hi
        rcases hgo with hgo1 | ⟨hgo1, hgo2⟩
        all_goals
          go_wp2_with fail
          refine (drawNb_any w.heap.size _ _ len hl (HC.out.below HB.out) HB.out.size).mono ?_
          rintro e w17 ⟨xd, dm, di, rfl, hb, h1, h2⟩
          replace HB := Lib.hid (HB.out.trans (hb.mono HB.out.size))
          replace HCM := Lib.hid (HCM.out.up hb)
          have HD := Lib.hid (h1.mat)
          have HDA := Lib.hid (h2)
          clear hb
          go_wp2_with fail
          clear h1 h2
          refine (drawSub_any w.heap.size _ _ len hl (HC.out.below HB.out) HB.out.size).mono ?_
          rintro e w18 ⟨xe, ye, em, el, rfl, hb, h1, h2, h3, h4⟩
          replace HB := Lib.hid (HB.out.trans (hb.mono HB.out.size))
          replace HCM := Lib.hid (HCM.out.up hb)
          replace HD := Lib.hid (HD.out.up hb)
          have HEM := Lib.hid (h1.mat)
          have HEA := Lib.hid (h2)
          have HEL := Lib.hid (h3.rowB)
          have HELL := Lib.hid ((show el.length ≤ maxLen by unfold maxLen; omega))
          clear hb
          go_wp2_with fail
          clear h1 h2 h3 h4
          refine (subi_any _ _ _ _ em el _ HEM.out HEL.out (Nat.le_refl _) (Nat.le_refl _) HEA.out.fit HELL.out).mono ?_
          rintro e w19 ⟨xu, rfl, h1, hb⟩
          replace HB := Lib.hid (HB.out.trans (hb.mono HB.out.size))
          replace HCM := Lib.hid (HCM.out.up hb)
          replace HD := Lib.hid (HD.out.up hb)
          replace HEM := Lib.hid (HEM.out.up hb)
          replace HEL := Lib.hid (HEL.out.up hb)
          have HU := Lib.hid (h1.matB)
          clear hb
          go_wp2_with fail
          clear h1
          refine (subs_any _ _ _ _ em el _ HEM.out HEL.out (Nat.le_refl _) (Nat.le_refl _) HEA.out.fit HELL.out).mono ?_
          rintro e w20 ⟨xv, rfl, h1, hb⟩
          replace HB := Lib.hid (HB.out.trans (hb.mono HB.out.size))
          replace HCM := Lib.hid (HCM.out.up hb)
          replace HD := Lib.hid (HD.out.up hb)
          replace HU := Lib.hid (HU.out.up hb)
          have HV := Lib.hid (h1.matB)
          clear hb
          go_wp2_with fail
          clear h1 HEM HEL HELL HEA
          refine (drawRel_any w.heap.size _ _ len hl (HC.out.below HB.out) HB.out.size).mono ?_
          rintro e w21 ⟨xf, yf, fm, fl, rfl, hb, h1, h2, h3, h4⟩
          replace HB := Lib.hid (HB.out.trans (hb.mono HB.out.size))
          replace HCM := Lib.hid (HCM.out.up hb)
          replace HD := Lib.hid (HD.out.up hb)
          replace HU := Lib.hid (HU.out.up hb)
          replace HV := Lib.hid (HV.out.up hb)
          have HFM := Lib.hid (h1.mat)
          have HFA := Lib.hid (h2)
          have HFL := Lib.hid (h3.rowB)
          have HFC := Lib.hid (h3.capOk)
          have HFLL := Lib.hid ((show fl.length ≤ maxLen by unfold maxLen; omega))
          clear hb
          go_wp2_with fail
          clear h1 h2 h3 h4
          refine (reli_any _ _ _ _ fm fl _ HFM.out HFL.out (Nat.le_refl _) (Nat.le_refl _) HFA.out.fit HFLL.out).mono ?_
          rintro e w22 ⟨xg, rfl, h1, hb⟩
          replace HB := Lib.hid (HB.out.trans (hb.mono HB.out.size))
          replace HCM := Lib.hid (HCM.out.up hb)
          replace HD := Lib.hid (HD.out.up hb)
          replace HU := Lib.hid (HU.out.up hb)
          replace HV := Lib.hid (HV.out.up hb)
          replace HFM := Lib.hid (HFM.out.up hb)
          replace HFL := Lib.hid (HFL.out.up hb)
          have HG := Lib.hid (h1.matB)
          clear hb
          go_wp2_with fail
          clear h1
          refine (rels_any _ _ _ _ fm fl _ HFM.out HFL.out (Nat.le_refl _) (Nat.le_refl _) HFA.out.fit HFLL.out HFC.out).mono ?_
          rintro e w23 ⟨xh, rfl, h1, hb⟩
          replace HB := Lib.hid (HB.out.trans (hb.mono HB.out.size))
          replace HCM := Lib.hid (HCM.out.up hb)
          replace HD := Lib.hid (HD.out.up hb)
          replace HU := Lib.hid (HU.out.up hb)
          replace HV := Lib.hid (HV.out.up hb)
          replace HG := Lib.hid (HG.out.up hb)
          have HH := Lib.hid (h1.matB)
          clear hb
          go_wp2_with fail
          clear h1 HFM HFL HFLL HFA HFC
          refine (nbi_any _ _ dm di _ HD.out (Nat.le_refl _) HDA.out.fit).mono ?_
          rintro e w24 ⟨xi, rfl, h1, hb⟩
          replace HB := Lib.hid (HB.out.trans (hb.mono HB.out.size))
          replace HCM := Lib.hid (HCM.out.up hb)
          replace HD := Lib.hid (HD.out.up hb)
          replace HU := Lib.hid (HU.out.up hb)
          replace HV := Lib.hid (HV.out.up hb)
          replace HG := Lib.hid (HG.out.up hb)
          replace HH := Lib.hid (HH.out.up hb)
          have H1 := Lib.hid (h1.rowB)
          clear hb
          go_wp2_with fail
          clear h1
          refine (nbs_any _ _ dm di _ HD.out (Nat.le_refl _) HDA.out.fit).mono ?_
          rintro e w25 ⟨xj, rfl, h1, hb⟩
          replace HB := Lib.hid (HB.out.trans (hb.mono HB.out.size))
          replace HCM := Lib.hid (HCM.out.up hb)
          replace HU := Lib.hid (HU.out.up hb)
          replace HV := Lib.hid (HV.out.up hb)
          replace HG := Lib.hid (HG.out.up hb)
          replace HH := Lib.hid (HH.out.up hb)
          replace H1 := Lib.hid (H1.out.up hb)
          have H2 := Lib.hid (h1.rowB)
          clear hb
          go_wp2_with fail
          clear h1
          refine (smS_same _ _ (nbs dm di) _ H1.out H2.out (by have := nbs_len dm di; unfold maxLen; omega)).mono ?_
          rintro e w26 ⟨rfl, hb⟩
          replace HB := Lib.hid (HB.out.trans (hb.mono HB.out.size))
          replace HCM := Lib.hid (HCM.out.up hb)
          replace HU := Lib.hid (HU.out.up hb)
          replace HV := Lib.hid (HV.out.up hb)
          replace HG := Lib.hid (HG.out.up hb)
          replace HH := Lib.hid (HH.out.up hb)
          clear hb
          go_wp2_with fail
          clear H1 H2 HD HDA
          refine (parti_any _ _ c _ HCM.out (Nat.le_refl _) HCA.out.fit).mono ?_
          rintro e w27 ⟨xi, rfl, h1, hb⟩
          replace HB := Lib.hid (HB.out.trans (hb.mono HB.out.size))
          replace HCM := Lib.hid (HCM.out.up hb)
          replace HU := Lib.hid (HU.out.up hb)
          replace HV := Lib.hid (HV.out.up hb)
          replace HG := Lib.hid (HG.out.up hb)
          replace HH := Lib.hid (HH.out.up hb)
          have H1 := Lib.hid (h1.matB)
          clear hb
          go_wp2_with fail
          clear h1
          refine (parts_any _ _ c _ HCM.out (Nat.le_refl _) HCA.out.fit).mono ?_
          rintro e w28 ⟨xj, rfl, h1, hb⟩
          replace HB := Lib.hid (HB.out.trans (hb.mono HB.out.size))
          replace HCM := Lib.hid (HCM.out.up hb)
          replace HU := Lib.hid (HU.out.up hb)
          replace HV := Lib.hid (HV.out.up hb)
          replace HG := Lib.hid (HG.out.up hb)
          replace HH := Lib.hid (HH.out.up hb)
          replace H1 := Lib.hid (H1.out.up hb)
          have H2 := Lib.hid (h1.matB)
          clear hb
          go_wp2_with fail
          clear h1
          refine (smSS_same _ _ (partsV c) _ H1.out H2.out (fit_of_small (small_of (partsV_small c)))).mono ?_
          rintro e w29 ⟨rfl, hb⟩
          replace HB := Lib.hid (HB.out.trans (hb.mono HB.out.size))
          replace HCM := Lib.hid (HCM.out.up hb)
          replace HU := Lib.hid (HU.out.up hb)
          replace HV := Lib.hid (HV.out.up hb)
          replace HG := Lib.hid (HG.out.up hb)
          replace HH := Lib.hid (HH.out.up hb)
          clear hb
          clear H1 H2
          have HU1 := Lib.hid (fit_of_small (small_of (subM_small em el)))
          have HG1 := Lib.hid (fit_of_small (small_of (relM_small fm fl)))
          generalize subM em el = um at *
          generalize subB em el = ub at *
          generalize relM fm fl = gm at *
          generalize relB fm fl = gb at *
          have hub : (ub == ub) = true := by simp
          have hgb : (gb == gb) = true := by simp
          go_wp2_with fail
          refine (smSS_same _ _ um _ HU.out HV.out HU1.out).mono ?_
          rintro e w30 ⟨rfl, hb⟩
          replace HB := Lib.hid (HB.out.trans (hb.mono HB.out.size))
          replace HCM := Lib.hid (HCM.out.up hb)
          replace HG := Lib.hid (HG.out.up hb)
          replace HH := Lib.hid (HH.out.up hb)
          clear hb
          go_wp2_with fail
          refine (smSS_same _ _ gm _ HG.out HH.out HG1.out).mono ?_
          rintro e w31 ⟨rfl, hb⟩
          replace HB := Lib.hid (HB.out.trans (hb.mono HB.out.size))
          replace HCM := Lib.hid (HCM.out.up hb)
          clear hb
          go_wp2_with fail
          refine (coni_any _ _ c _ HCM.out (Nat.le_refl _) HCA.out.fit).mono ?_
          rintro e w32 ⟨rfl, hb⟩
          replace HB := Lib.hid (HB.out.trans (hb.mono HB.out.size))
          replace HCM := Lib.hid (HCM.out.up hb)
          clear hb
          go_wp2_with fail
          have HR := Lib.hid (cons_any _ _ c _ HCM.out (Nat.le_refl _) HCA.out.fit)
          generalize connB (partsV c).length = cb at *
          have hcb : (cb == cb) = true := by simp
          refine (HR.out).mono ?_
          rintro e w33 ⟨rfl, hb⟩
          replace HB := Lib.hid (HB.out.trans (hb.mono HB.out.size))
          replace HCM := Lib.hid (HCM.out.up hb)
          clear hb
          go_wp2_with fail
          refine (cyci_any _ _ c _ HCM.out (Nat.le_refl _) HCA.out.fit).mono ?_
          rintro e w34 ⟨rfl, hb⟩
          replace HB := Lib.hid (HB.out.trans (hb.mono HB.out.size))
          replace HCM := Lib.hid (HCM.out.up hb)
          clear hb
          go_wp2_with fail
          have HR2 := Lib.hid (cycs_any _ _ c _ HCM.out (Nat.le_refl _) HCA.out.fit)
          generalize cycB c = yb at *
          have hyb : (yb == yb) = true := by simp
          refine (HR2.out).mono ?_
          rintro e w35 ⟨rfl, hb⟩
          replace HB := Lib.hid (HB.out.trans (hb.mono HB.out.size))
          clear hb
          go_wp2_with fail
          go_ret
          exact ⟨rfl, HB.out⟩
end Go.Proofs.YtppimgkampkfjaaGreatDoor
namespace Go.Proofs.YtppimgkampkfjaaGreatDoor
open Go.ChangeShapes Go.WideShapes Go.ChangeAt Go.ChangeMaps Go.RowKit

set_option maxRecDepth 100000 in
theorem code_open {H : Type} {enc : TypeId × Value → H} {W : World} {base : Nat} {v : Value} {d : DataW H} {ps : List MemPlace} (hval : Value.okWide Tryz.prog W .any base 22 v)
    (h : DataW.Trod enc Tryz.prog W 0 (fun _ => true) true 22 v d ps) : ∃ (a : Option Addr) (len cap : Nat), v = .slice a len cap ∧ len ≤ maxLen ∧ CodeB W.heap.size W v len := by
  obtain ⟨a0, len, cap, rfl⟩ := okWide_slice Tryz.underlying22 hval
  obtain ⟨fuel, hf⟩ := h
  have hc1 : Tryz.prog.cellsOf 5 = 1 := by kernel_rfl
  rcases open_ints Tryz.underlying22 Tryz.underlying5 hc1 hf with ⟨hcs, _⟩ | ⟨a, len', cap', zs, hcs, _, hl, hm, hz, _, hcell, hwz⟩
  · simp [Value.cells] at hcs
    obtain ⟨rfl, rfl, rfl⟩ := hcs
    exact ⟨none, 0, 0, rfl, Nat.zero_le _, Or.inl ⟨⟨none, 0, rfl⟩, rfl⟩⟩
  · simp [Value.cells] at hcs
    obtain ⟨rfl, rfl, rfl⟩ := hcs
    simp only [if_true] at hz
    refine ⟨some a, len, cap, rfl, by omega, ?_⟩
    by_cases hl0 : len = 0
    · subst hl0
      exact Or.inl ⟨⟨some a, cap, rfl⟩, rfl⟩
    · obtain ⟨b, off, spot⟩ := a
      have hspot : spot = none := by simpa [Addr.add] using World.cell?_spot (hcell 0 (by omega))
      subst hspot
      have hb : b < W.heap.size := by
        have h0 := hcell 0 (by omega)
        have := World.block_lt_of_cell? W _ h0
        simpa [Addr.add] using this
      refine Or.inr ⟨b, off, cap, rfl, hb, fun j hj => ?_⟩
      have hj' : j < zs.length := by omega
      have hcj := hcell j hj'
      have hadd : (⟨b, off, none⟩ : Addr).add j = ⟨b, off + j, none⟩ := by unfold Addr.add; split <;> simp_all
      rw [hadd] at hcj
      have hw := hwz (zs.getD j 0) (by
        rw [List.getD_eq_getElem?_getD, List.getElem?_eq_getElem hj']
        exact List.getElem_mem _)
      have hr : 0 ≤ zs.getD j 0 ∧ zs.getD j 0 ≤ 255 := by
        have h' : IntKind.u8.min ≤ zs.getD j 0 ∧ zs.getD j 0 ≤ IntKind.u8.max := by simpa [Lit.wf] using hw
        have h1 : IntKind.u8.max = 255 := by decide
        have h2 : IntKind.u8.min = 0 := by decide
        omega
      refine ⟨UInt8.ofNat (zs.getD j 0).toNat, ?_⟩
      rw [hcj, UInt8.toNat_ofNat']
      congr 2
      omega
end Go.Proofs.YtppimgkampkfjaaGreatDoor
