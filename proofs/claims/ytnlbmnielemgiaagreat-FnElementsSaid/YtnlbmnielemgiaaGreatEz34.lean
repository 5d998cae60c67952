/-
  Elements: what the program's DoCommute and IsInvolution return (printed by mk_eli.py).
  Elements: what the model's PowerElement returns.
  Elements: what the program's PowerElement returns.
-/
import Derived.Test.YtnlbmnielemgiaaGreatEz33
import Derived.Test.YtnlbmnielemgiaaGreatEz23
import Derived.Test.YtnlbmnielemgiaaGreatEz02
namespace Go.Proofs.YtnlbmnielemgiaaGreat
open Go.RowKit

set_option maxHeartbeats 4000000 in
set_option maxRecDepth 100000 in
theorem comi_e (v va vb : Value) (m : List (List Int)) (a b : List Int) (w : World) (h : MatB w.heap.size w v m) (ha : RowB w.heap.size w va a) (hb : RowB w.heap.size w vb b) (hf : RowsFit m) (hla : a.length ≤ 1048576) (hlb : b.length ≤ 1048576) :
    Calls Tryz.prog 13 #[v, va, vb] w fun e w' => e = .returned (.bool (comB m a b)) ∧ Below w.heap.size w w' := by
  have HX := Lib.hid h; have HA := Lib.hid ha; have HV := Lib.hid hb
  clear h ha hb
  have HI1 := Lib.hid (fun (wx : World) (hx : MatB wx.heap.size wx v m) (hy : RowB wx.heap.size wx va a) => iswi_e v va m a wx hx hy hf hla)
  have HI2 := Lib.hid (fun (wx : World) (hx : MatB wx.heap.size wx v m) (hy : RowB wx.heap.size wx vb b) => iswi_e v vb m b wx hx hy hf hlb)
  by_cases h1 : IsW m a
  case neg =>
    rw [show comB m a b = false by unfold comB; rw [wordB_no h1]; rfl]
    rw [wordB_no h1] at HI1
    clear h1 HI2 hf
    have HB := Lib.hid (Below.refl w.heap.size w)
    go_enter Tryz.func13, Tryz.ntmps13
    go_wp2_with fail
    refine (HI1.out _ HX.out HA.out).mono ?_
    rintro e w1 ⟨rfl, hb⟩
    replace HX := Lib.hid (HX.out.upE hb)
    replace HA := Lib.hid (HA.out.upE hb)
    replace HV := Lib.hid (HV.out.upE hb)
    replace HB := Lib.hid (HB.out.trans (hb.mono HB.out.size))
    clear hb
    go_wp2_with fail
    go_ret
    exact ⟨rfl, HB.out⟩
  case pos =>
    by_cases h2 : IsW m b
    case neg =>
      rw [show comB m a b = false by unfold comB; rw [wordB_yes h1, wordB_no h2]; rfl]
      rw [wordB_yes h1] at HI1; rw [wordB_no h2] at HI2
      clear h1 h2 hf
      have HB := Lib.hid (Below.refl w.heap.size w)
      go_enter Tryz.func13, Tryz.ntmps13
      go_wp2_with fail
      refine (HI1.out _ HX.out HA.out).mono ?_
      rintro e w1 ⟨rfl, hb⟩
      replace HX := Lib.hid (HX.out.upE hb)
      replace HA := Lib.hid (HA.out.upE hb)
      replace HV := Lib.hid (HV.out.upE hb)
      replace HB := Lib.hid (HB.out.trans (hb.mono HB.out.size))
      clear hb
      go_wp2_with fail
      refine (HI2.out _ HX.out HV.out).mono ?_
      rintro e w2 ⟨rfl, hb⟩
      replace HX := Lib.hid (HX.out.upE hb)
      replace HA := Lib.hid (HA.out.upE hb)
      replace HV := Lib.hid (HV.out.upE hb)
      replace HB := Lib.hid (HB.out.trans (hb.mono HB.out.size))
      clear hb
      go_wp2_with fail
      go_ret
      exact ⟨rfl, HB.out⟩
    case pos =>
      have hv : comB m a b = eqwB (imgW m (a ++ b)) (imgW m (b ++ a)) := by unfold comB; rw [wordB_yes h1, wordB_yes h2, Bool.true_and, Bool.true_and]
      rw [hv, ← eq_pad (a := imgW m (a ++ b)) (b := imgW m (b ++ a)) (by rw [imgW_len, imgW_len]) (by rw [imgW_len]; exact h1.2.1.2.2.2)]
      rw [wordB_yes h1] at HI1; rw [wordB_yes h2] at HI2
      have HC1 := Lib.hid (fun (wx : World) (hy : RowB wx.heap.size wx va a) (hz : RowB wx.heap.size wx vb b) => cati_any _ va vb a b wx hy hz (Nat.le_refl _) hla hlb)
      have HC2 := Lib.hid (fun (wx : World) (hy : RowB wx.heap.size wx va a) (hz : RowB wx.heap.size wx vb b) => cati_any _ vb va b a wx hz hy (Nat.le_refl _) hlb hla)
      have HM1 := Lib.hid (fun (z : Value) (wx : World) (hx : MatB wx.heap.size wx v m) (hz : RowB wx.heap.size wx z (a ++ b)) => iorho_any _ _ v z m (a ++ b) wx hx hz (Nat.le_refl _) (Nat.le_refl _) hf (wd_cat h1 h2).car (wd_cat h1 h2).lets (by have := (wd_cat h1 h2).short; omega))
      have HM2 := Lib.hid (fun (z : Value) (wx : World) (hx : MatB wx.heap.size wx v m) (hz : RowB wx.heap.size wx z (b ++ a)) => iorho_any _ _ v z m (b ++ a) wx hx hz (Nat.le_refl _) (Nat.le_refl _) hf (wd_cat h2 h1).car (wd_cat h2 h1).lets (by have := (wd_cat h2 h1).short; omega))
      unfold imV at HM1 HM2
      clear h1 h2 hf hv
      generalize (imgW m (a ++ b)).getD 0 0 = x0 at *
      generalize (imgW m (a ++ b)).getD 1 0 = x1 at *
      generalize (imgW m (a ++ b)).getD 2 0 = x2 at *
      generalize (imgW m (a ++ b)).getD 3 0 = x3 at *
      generalize (imgW m (b ++ a)).getD 0 0 = y0 at *
      generalize (imgW m (b ++ a)).getD 1 0 = y1 at *
      generalize (imgW m (b ++ a)).getD 2 0 = y2 at *
      generalize (imgW m (b ++ a)).getD 3 0 = y3 at *
      generalize a ++ b = ab at *
      generalize b ++ a = ba at *
      have heq := fun wx => eq_im x0 x1 x2 x3 y0 y1 y2 y3 wx
      generalize (x0 == y0 && (x1 == y1 && (x2 == y2 && x3 == y3))) = r at *
      have HB := Lib.hid (Below.refl w.heap.size w)
      go_enter Tryz.func13, Tryz.ntmps13
      go_wp2_with fail
      refine (HI1.out _ HX.out HA.out).mono ?_
      rintro e w1 ⟨rfl, hb⟩
      replace HX := Lib.hid (HX.out.upE hb)
      replace HA := Lib.hid (HA.out.upE hb)
      replace HV := Lib.hid (HV.out.upE hb)
      replace HB := Lib.hid (HB.out.trans (hb.mono HB.out.size))
      clear hb
      go_wp2_with fail
      refine (HI2.out _ HX.out HV.out).mono ?_
      rintro e w2 ⟨rfl, hb⟩
      replace HX := Lib.hid (HX.out.upE hb)
      replace HA := Lib.hid (HA.out.upE hb)
      replace HV := Lib.hid (HV.out.upE hb)
      replace HB := Lib.hid (HB.out.trans (hb.mono HB.out.size))
      clear hb
      go_wp2_with fail
      refine (HC1.out _ HA.out HV.out).mono ?_
      rintro e w3 ⟨z1, rfl, hz, hb⟩
      replace HX := Lib.hid (HX.out.upE hb)
      replace HA := Lib.hid (HA.out.upE hb)
      replace HV := Lib.hid (HV.out.upE hb)
      have HZ1 := Lib.hid (hz.1.rowB)
      replace HB := Lib.hid (HB.out.trans (hb.mono HB.out.size))
      clear hb
      go_wp2_with fail
      clear hz
      refine (HM1.out z1 _ HX.out HZ1.out).mono ?_
      rintro e w4 ⟨rfl, hb⟩
      replace HX := Lib.hid (HX.out.upE hb)
      replace HA := Lib.hid (HA.out.upE hb)
      replace HV := Lib.hid (HV.out.upE hb)
      replace HZ1 := Lib.hid (HZ1.out.upE hb)
      replace HB := Lib.hid (HB.out.trans (hb.mono HB.out.size))
      clear hb
      go_wp2_with fail
      refine (HC2.out _ HA.out HV.out).mono ?_
      rintro e w5 ⟨z2, rfl, hz, hb⟩
      replace HX := Lib.hid (HX.out.upE hb)
      replace HA := Lib.hid (HA.out.upE hb)
      replace HV := Lib.hid (HV.out.upE hb)
      replace HZ1 := Lib.hid (HZ1.out.upE hb)
      have HZ2 := Lib.hid (hz.1.rowB)
      replace HB := Lib.hid (HB.out.trans (hb.mono HB.out.size))
      clear hb
      go_wp2_with fail
      clear hz
      refine (HM2.out z2 _ HX.out HZ2.out).mono ?_
      rintro e w6 ⟨rfl, hb⟩
      replace HX := Lib.hid (HX.out.upE hb)
      replace HA := Lib.hid (HA.out.upE hb)
      replace HV := Lib.hid (HV.out.upE hb)
      replace HZ1 := Lib.hid (HZ1.out.upE hb)
      replace HZ2 := Lib.hid (HZ2.out.upE hb)
      replace HB := Lib.hid (HB.out.trans (hb.mono HB.out.size))
      clear hb
      go_wp2_with fail
      go_ret
      exact ⟨rfl, HB.out⟩
set_option maxHeartbeats 4000000 in
set_option maxRecDepth 100000 in
theorem ivoi_e (v va : Value) (m : List (List Int)) (a : List Int) (w : World) (h : MatB w.heap.size w v m) (ha : RowB w.heap.size w va a) (hf : RowsFit m) (hla : a.length ≤ 1048576) :
    Calls Tryz.prog 26 #[v, va] w fun e w' => e = .returned (.bool (ivoB m a)) ∧ Below w.heap.size w w' := by
  have HX := Lib.hid h; have HA := Lib.hid ha
  clear h ha
  have HR := Lib.hid (fun (wx : World) (hy : RowB wx.heap.size wx va a) => revi_any _ va a wx hy (Nat.le_refl _) hla)
  have HS := Lib.hid (fun (z : Value) (wx : World) (hx : MatB wx.heap.size wx v m) (hy : RowB wx.heap.size wx va a) (hz : RowB wx.heap.size wx z a.reverse) => sami_any _ _ _ v va z m a a.reverse wx hx hy hz (Nat.le_refl _) (Nat.le_refl _) (Nat.le_refl _) hf hla (by rw [List.length_reverse]; exact hla))
  have HT := Lib.hid (fun (wx : World) (hx : MatB wx.heap.size wx v m) (hy : RowB wx.heap.size wx va a) => sami_any _ wx.heap.size wx.heap.size v va (.slice none 0 0) m a [] wx hx hy (.inl ⟨rfl, _, _, rfl⟩) (Nat.le_refl _) (Nat.le_refl _) (Nat.le_refl _) hf hla (Nat.zero_le _))
  rw [ivo_is m a]
  clear hf hla
  generalize samB m a a.reverse = sb at *
  generalize samB m a [] = sn at *
  generalize a.reverse = ar at *
  cases sb
  case false =>
    rw [Bool.false_and]
    clear HT
    have HB := Lib.hid (Below.refl w.heap.size w)
    go_enter Tryz.func26, Tryz.ntmps26
    go_wp2_with fail
    refine (HR.out _ HA.out).mono ?_
    rintro e w1 ⟨z, rfl, hz, hb⟩
    replace HX := Lib.hid (HX.out.upE hb)
    replace HA := Lib.hid (HA.out.upE hb)
    have HZ := Lib.hid (hz.1.rowB)
    replace HB := Lib.hid (HB.out.trans (hb.mono HB.out.size))
    clear hb
    go_wp2_with fail
    clear hz
    refine (HS.out z _ HX.out HA.out HZ.out).mono ?_
    rintro e w2 ⟨rfl, hb⟩
    replace HX := Lib.hid (HX.out.upE hb)
    replace HA := Lib.hid (HA.out.upE hb)
    replace HZ := Lib.hid (HZ.out.upE hb)
    replace HB := Lib.hid (HB.out.trans (hb.mono HB.out.size))
    clear hb
    go_wp2_with fail
    go_ret
    exact ⟨rfl, HB.out⟩
  case true =>
    rw [Bool.true_and]
    have HB := Lib.hid (Below.refl w.heap.size w)
    go_enter Tryz.func26, Tryz.ntmps26
    go_wp2_with fail
    refine (HR.out _ HA.out).mono ?_
    rintro e w1 ⟨z, rfl, hz, hb⟩
    replace HX := Lib.hid (HX.out.upE hb)
    replace HA := Lib.hid (HA.out.upE hb)
    have HZ := Lib.hid (hz.1.rowB)
    replace HB := Lib.hid (HB.out.trans (hb.mono HB.out.size))
    clear hb
    go_wp2_with fail
    clear hz
    refine (HS.out z _ HX.out HA.out HZ.out).mono ?_
    rintro e w2 ⟨rfl, hb⟩
    replace HX := Lib.hid (HX.out.upE hb)
    replace HA := Lib.hid (HA.out.upE hb)
    replace HZ := Lib.hid (HZ.out.upE hb)
    replace HB := Lib.hid (HB.out.trans (hb.mono HB.out.size))
    clear hb
    go_wp2_with fail
    refine (HT.out _ HX.out HA.out).mono ?_
    rintro e w3 ⟨rfl, hb⟩
    replace HX := Lib.hid (HX.out.upE hb)
    replace HA := Lib.hid (HA.out.upE hb)
    replace HZ := Lib.hid (HZ.out.upE hb)
    replace HB := Lib.hid (HB.out.trans (hb.mono HB.out.size))
    clear hb
    go_wp2_with fail
    go_ret
    exact ⟨rfl, HB.out⟩
end Go.Proofs.YtnlbmnielemgiaaGreat
namespace Go.Proofs.YtnlbmnielemgiaaGreat
open Go.RowKit

theorem pow_stuck {m : List (List Int)} {x : List Int} {t : Nat} (h : powS m x t = ([], false)) : ∀ k, t ≤ k → powS m x k = ([], false) := by
  intro k hk
  induction k with
  | zero =>
    have h0 : t = 0 := by omega
    rw [h0] at h; exact h
  | succ k ih =>
    rcases Nat.lt_or_ge k t with h1 | h1
    · obtain rfl : t = k + 1 := by omega
      exact h
    · unfold powS
      rw [ih h1]; rfl
theorem pow_step {m : List (List Int)} {x : List Int} {t : Nat} (h : (powS m x t).2 = true) : powS m x (t + 1) = (mulL m (powS m x t).1 x, mulB m (powS m x t).1 x) := by
  conv => lhs; unfold powS
  rw [if_pos h]
theorem powS_len (m : List (List Int)) (x : List Int) : ∀ t, (powS m x t).1.length ≤ 31
  | 0 => Nat.zero_le _
  | t + 1 => by
    unfold powS
    split
    · unfold mulL
      split
      · exact fitL_len m _
      · exact Nat.zero_le _
    · exact Nat.zero_le _
set_option maxHeartbeats 4000000 in
set_option maxRecDepth 100000 in
theorem pows_e (v va : Value) (m : List (List Int)) (a : List Int) (kk : Int) (w : World) (h : MatB w.heap.size w v m) (ha : RowB w.heap.size w va a) (hf : RowsFit m) (hla : a.length ≤ 1048576) :
    Calls Tryz.prog 18 #[v, va, .int .i64 kk] w (MakesS2 w (powL m a kk) (.bool (powB m a kk))) := by
  have HX := Lib.hid h; have HA := Lib.hid ha
  clear h ha
  have HN := Lib.hid (fun (wx : World) (hx : MatB wx.heap.size wx v m) (hy : RowB wx.heap.size wx va a) => nrms_any _ _ v va m a wx hx hy (Nat.le_refl _) (Nat.le_refl _) hf hla)
  cases hW : wordB m a
  case false =>
    have hv : powB m a kk = false := by unfold powB; rw [hW]; rfl
    rw [hv, show powL m a kk = [] by unfold powL; rw [hv]; rfl]
    rw [hW] at HN
    clear hv hW hf
    generalize nrmL m a = R at *
    have HB := Lib.hid (Below.refl w.heap.size w)
    go_enter Tryz.func18, Tryz.ntmps18
    go_wp2_with fail
    refine (HN.out _ HX.out HA.out).mono ?_
    rintro e w1 ⟨z, rfl, hz, hb⟩
    replace HB := Lib.hid (HB.out.trans (hb.mono HB.out.size))
    clear hz hb
    go_wp2_with fail
    go_ret2
    exact ⟨_, rfl, ⟨(row_empty w1).mono HB.out.size (Nat.le_refl _), Nat.le_refl _⟩, HB.out.alloc HB.out.size _⟩
  case true =>
    rw [hW] at HN
    by_cases hk : 0 ≤ kk ∧ kk ≤ 60
    case neg =>
      have hv : powB m a kk = false := by unfold powB; rw [decide_eq_false hk, Bool.and_false]; rfl
      rw [hv, show powL m a kk = [] by unfold powL; rw [hv]; rfl]
      have HI := Lib.hid (show inB kk 0 60 = false by unfold inB; simp; omega)
      clear hv hW hf
      generalize nrmL m a = R at *
      have HB := Lib.hid (Below.refl w.heap.size w)
      go_enter Tryz.func18, Tryz.ntmps18
      go_wp2_with fail
      refine (HN.out _ HX.out HA.out).mono ?_
      rintro e w1 ⟨z, rfl, hz, hb⟩
      replace HB := Lib.hid (HB.out.trans (hb.mono HB.out.size))
      clear hz hb
      go_wp2_with fail
      refine (l1in_c _ _ _ false HI.out _).mono ?_
      rintro e w' ⟨rfl, rfl⟩
      go_wp2_with fail
      go_ret2
      exact ⟨_, rfl, ⟨(row_empty w1).mono HB.out.size (Nat.le_refl _), Nat.le_refl _⟩, HB.out.alloc HB.out.size _⟩
    case pos =>
      obtain ⟨n, rfl⟩ : ∃ n : Nat, kk = (n : Int) := ⟨kk.toNat, by omega⟩
      have hn : n ≤ 60 := by omega
      have HI := Lib.hid (show inB (n : Int) 0 60 = true by unfold inB; simp; omega)
      have hv : powB m a (n : Int) = (powS m (nrmL m a) n).2 := by unfold powB; rw [hW, decide_eq_true hk]; simp
      have HVB := Lib.hid hv
      have HVL := Lib.hid (show powL m a (n : Int) = if (powS m (nrmL m a) n).2 = true then (powS m (nrmL m a) n).1 else [] by unfold powL; rw [hv]; rfl)
      have HNO := Lib.hid (fun (h : (powS m (nrmL m a) n) = ([], false)) => show powB m a (n : Int) = false ∧ powL m a (n : Int) = [] from ⟨by rw [hv, h], by rw [HVL.out, h]; rfl⟩)
      have HYES := Lib.hid (fun (h : (powS m (nrmL m a) n).2 = true) => show powB m a (n : Int) = true ∧ powL m a (n : Int) = (powS m (nrmL m a) n).1 from ⟨by rw [hv, h], by rw [HVL.out, if_pos h]⟩)
      have hxl := nrmL_len m a
      clear hv HVB HVL
      generalize powB m a (n : Int) = PB at *
      generalize powL m a (n : Int) = PL at *
      generalize nrmL m a = x at *
      have HM := Lib.hid (fun (t : Nat) (y z : Value) (wx : World) (hx : MatB wx.heap.size wx v m) (hy : RowB wx.heap.size wx y (powS m x t).1) (hz : RowB wx.heap.size wx z x) => muls_e v y z m (powS m x t).1 x wx hx hy hz hf (by have := powS_len m x t; omega) (by omega))
      have HST := Lib.hid (fun (t : Nat) (h : (powS m x t).2 = true) => pow_step h)
      have HNB := Lib.hid (fun (t : Nat) (h : (powS m x t).2 = true) (h2 : mulB m (powS m x t).1 x = false) => show powS m x (t + 1) = ([], false) by rw [pow_step h, h2, mul_no h2])
      have HSK := Lib.hid (fun (t : Nat) (h : powS m x t = ([], false)) => pow_stuck h n)
      clear hW hf hk hxl
      have HB := Lib.hid (Below.refl w.heap.size w)
      go_enter Tryz.func18, Tryz.ntmps18
      go_wp2_with fail
      refine (HN.out _ HX.out HA.out).mono ?_
      rintro e w1 ⟨z, rfl, hz, hb⟩
      replace HX := Lib.hid (HX.out.upE hb)
      have HZ := Lib.hid hz.1.rowB
      replace HB := Lib.hid (HB.out.trans (hb.mono HB.out.size))
      clear hz hb HN HA
      go_wp2_with fail
      refine (l1in_c _ _ _ true HI.out _).mono ?_
      rintro e w' ⟨rfl, rfl⟩
      have hba : Below w1.heap.size w1 (w1.alloc (.cells #[] 3)) := (Below.refl _ _).alloc (Nat.le_refl _) _
      have HX0 := Lib.hid (HX.out.upE hba); have HZ0 := Lib.hid (HZ.out.upE hba)
      have HB0 := Lib.hid (HB.out.trans (hba.mono HB.out.size))
      have HY0 := Lib.hid ((row_empty w1).mono HB.out.size (Nat.le_refl _))
      clear hba HX HZ HB
      go_wp2_with fail
      go_loopw [10, 11] (fun y i wr => ∃ (t : Nat) (wq : World), wq = wr ∧ t ≤ n ∧ i = .int .i64 t ∧ Hid ((powS m x t).2 = true) ∧ RowI w.heap.size wq.heap.size wq y (powS m x t).1 ∧ MatB wq.heap.size wq v m ∧ RowB wq.heap.size wq z x ∧ Below w.heap.size w wq) (fun _ i _ => n - (intOf i).toNat)
      case atStart => exact ⟨0, _, rfl, Nat.zero_le _, rfl, Lib.hid rfl, HY0.out, HX0.out, HZ0.out, HB0.out⟩
      case round =>
        obtain ⟨t, wq, rfl, ht, rfl, hp, hy, hx, hz, hb⟩ := hrel
        clear HX0 HZ0 HB0 HY0
        have HY := Lib.hid hy; have HX := Lib.hid hx; have HZ := Lib.hid hz; have HB := Lib.hid hb
        clear hy hx hz hb
        by_cases hlt : t < n
        · have hd : decide (t < n) = true := decide_eq_true hlt
          have HC := Lib.hid (HM.out t _ z wq HX.out HY.out.rowB HZ.out)
          have HS1 := Lib.hid (HST.out t hp.out)
          have HN1 := Lib.hid (HNB.out t hp.out)
          cases hm : mulB m (powS m x t).1 x
          · have HR := Lib.hid (HNO.out (HSK.out (t + 1) (HN1.out hm) (by omega)))
            rw [hm] at HC
            rw [HR.out.1, HR.out.2]
            clear HR HN1 HS1 hm
            generalize mulL m (powS m x t).1 x = Q at *
            go_wp2_with fail
            refine HC.out.mono ?_
            rintro e w3 ⟨u, rfl, hu, hb⟩
            replace HB := Lib.hid (HB.out.trans (hb.mono HB.out.size))
            clear hu hb HC
            go_wp2_with fail
            go_ret2
            exact ⟨_, rfl, ⟨(row_empty w3).mono HB.out.size (Nat.le_refl _), Nat.le_refl _⟩, HB.out.alloc HB.out.size _⟩
          · rw [hm] at HC HS1
            clear HN1 hm
            go_wp2_with fail
            refine HC.out.mono ?_
            rintro e w3 ⟨u, rfl, hu, hb⟩
            have HU := Lib.hid (hu.1.mono HB.out.size (Nat.le_refl _))
            replace HX := Lib.hid (HX.out.upE hb); replace HZ := Lib.hid (HZ.out.upE hb)
            replace HB := Lib.hid (HB.out.trans (hb.mono HB.out.size))
            clear hu hb HC
            go_wp2_with fail
            exact ⟨⟨t + 1, _, rfl, by omega, by go_num, Lib.hid (by rw [HS1.out]), by rw [HS1.out]; exact HU.out, HX.out, HZ.out, HB.out⟩, by simp [intOf]; omega⟩
        · obtain rfl : t = n := by omega
          have hd : decide (t < t) = false := by simp
          have HR := Lib.hid (HYES.out hp.out)
          have hr1 := HR.out.1
          have HY2 := Lib.hid (show RowI w.heap.size wq.heap.size wq _ PL by rw [HR.out.2]; exact HY.out)
          subst hr1
          clear HR HY
          go_wp2_with fail
          go_ret2
          exact ⟨_, rfl, ⟨HY2.out, Nat.le_refl _⟩, HB.out⟩
end Go.Proofs.YtnlbmnielemgiaaGreat
namespace Go.Proofs.YtnlbmnielemgiaaGreat
open Go.RowKit

set_option maxHeartbeats 4000000 in
set_option maxRecDepth 100000 in
theorem powi_e (v va : Value) (m : List (List Int)) (a : List Int) (kk : Int) (w : World) (h : MatB w.heap.size w v m) (ha : RowB w.heap.size w va a) (hf : RowsFit m) (hla : a.length ≤ 1048576) :
    Calls Tryz.prog 17 #[v, va, .int .i64 kk] w (MakesS2 w (powL m a kk) (.bool (powB m a kk))) := by
  have HX := Lib.hid h; have HA := Lib.hid ha
  clear h ha
  have HI := Lib.hid (fun (wx : World) (hx : MatB wx.heap.size wx v m) (hy : RowB wx.heap.size wx va a) => iswi_e v va m a wx hx hy hf hla)
  by_cases hW : IsW m a
  case neg =>
    have hv : powB m a kk = false := by unfold powB; rw [wordB_no hW]; rfl
    rw [hv, show powL m a kk = [] by unfold powL; rw [hv]; rfl]
    rw [wordB_no hW] at HI
    clear hv hW hf
    have HB := Lib.hid (Below.refl w.heap.size w)
    go_enter Tryz.func17, Tryz.ntmps17
    go_wp2_with fail
    refine (HI.out _ HX.out HA.out).mono ?_
    rintro e w1 ⟨rfl, hb⟩
    replace HB := Lib.hid (HB.out.trans (hb.mono HB.out.size))
    clear hb
    go_wp2_with fail
    go_ret2
    exact ⟨_, rfl, ⟨RowI.nil' _ _ _, Nat.le_refl _⟩, HB.out⟩
  case pos =>
    rw [wordB_yes hW] at HI
    by_cases hk : 0 ≤ kk ∧ kk ≤ 60
    case neg =>
      have hv : powB m a kk = false := by unfold powB; rw [decide_eq_false hk, Bool.and_false]; rfl
      rw [hv, show powL m a kk = [] by unfold powL; rw [hv]; rfl]
      clear hv hW hf
      have HB := Lib.hid (Below.refl w.heap.size w)
      by_cases hk0 : kk < 0
      case pos =>
        have hd0 : decide (kk < 0) = true := decide_eq_true hk0
        clear hk
        go_enter Tryz.func17, Tryz.ntmps17
        go_wp2_with fail
        refine (HI.out _ HX.out HA.out).mono ?_
        rintro e w1 ⟨rfl, hb⟩
        replace HB := Lib.hid (HB.out.trans (hb.mono HB.out.size))
        clear hb
        go_wp2_with fail
        go_ret2
        exact ⟨_, rfl, ⟨RowI.nil' _ _ _, Nat.le_refl _⟩, HB.out⟩
      case neg =>
        have hd0 : decide (kk < 0) = false := decide_eq_false hk0
        have hk60 : 60 < kk := by omega
        have hd60 : decide (60 < kk) = true := decide_eq_true hk60
        clear hk
        go_enter Tryz.func17, Tryz.ntmps17
        go_wp2_with fail
        refine (HI.out _ HX.out HA.out).mono ?_
        rintro e w1 ⟨rfl, hb⟩
        replace HB := Lib.hid (HB.out.trans (hb.mono HB.out.size))
        clear hb
        go_wp2_with fail
        go_ret2
        exact ⟨_, rfl, ⟨RowI.nil' _ _ _, Nat.le_refl _⟩, HB.out⟩
    case pos =>
      obtain ⟨n, rfl⟩ : ∃ n : Nat, kk = (n : Int) := ⟨kk.toNat, by omega⟩
      have hn : n ≤ 60 := by omega
      have hn0 : ¬ ((n : Int) < 0) := by omega
      have hn6 : ¬ ((60 : Int) < (n : Int)) := by omega
      have hd0 : decide ((n : Int) < 0) = false := decide_eq_false hn0
      have hd60 : decide ((60 : Int) < (n : Int)) = false := decide_eq_false hn6
      have hv : powB m a (n : Int) = (powS m a n).2 := by unfold powB; rw [wordB_yes hW, decide_eq_true hk, pow_nrm hW]; simp
      have HVB := Lib.hid hv
      have HVL := Lib.hid (show powL m a (n : Int) = if (powS m a n).2 = true then (powS m a n).1 else [] by unfold powL; rw [hv, pow_nrm hW]; rfl)
      have HNO := Lib.hid (fun (h : (powS m a n) = ([], false)) => show powB m a (n : Int) = false ∧ powL m a (n : Int) = [] from ⟨by rw [hv, h], by rw [HVL.out, h]; rfl⟩)
      have HYES := Lib.hid (fun (h : (powS m a n).2 = true) => show powB m a (n : Int) = true ∧ powL m a (n : Int) = (powS m a n).1 from ⟨by rw [hv, h], by rw [HVL.out, if_pos h]⟩)
      clear hv HVB HVL
      generalize powB m a (n : Int) = PB at *
      generalize powL m a (n : Int) = PL at *
      have HM := Lib.hid (fun (t : Nat) (y : Value) (wx : World) (hx : MatB wx.heap.size wx v m) (hy : RowB wx.heap.size wx y (powS m a t).1) (hz : RowB wx.heap.size wx va a) => muli_e v y va m (powS m a t).1 a wx hx hy hz hf (by have := powS_len m a t; omega) hla)
      have HST := Lib.hid (fun (t : Nat) (h : (powS m a t).2 = true) => pow_step h)
      have HNB := Lib.hid (fun (t : Nat) (h : (powS m a t).2 = true) (h2 : mulB m (powS m a t).1 a = false) => show powS m a (t + 1) = ([], false) by rw [pow_step h, h2, mul_no h2])
      have HSK := Lib.hid (fun (t : Nat) (h : powS m a t = ([], false)) => pow_stuck h n)
      clear hW hf hk
      have HB := Lib.hid (Below.refl w.heap.size w)
      go_enter Tryz.func17, Tryz.ntmps17
      go_wp2_with fail
      refine (HI.out _ HX.out HA.out).mono ?_
      rintro e w1 ⟨rfl, hb⟩
      replace HX := Lib.hid (HX.out.upE hb); replace HA := Lib.hid (HA.out.upE hb)
      replace HB := Lib.hid (HB.out.trans (hb.mono HB.out.size))
      have HY0 := Lib.hid (RowI.nil' w.heap.size w1.heap.size w1)
      clear hb HI
      go_wp2_with fail
      go_loopw [8, 24] (fun y i wr => ∃ (t : Nat) (wq : World), wq = wr ∧ t ≤ n ∧ i = .int .i64 t ∧ Hid ((powS m a t).2 = true) ∧ RowI w.heap.size wq.heap.size wq y (powS m a t).1 ∧ MatB wq.heap.size wq v m ∧ RowB wq.heap.size wq va a ∧ Below w.heap.size w wq) (fun _ i _ => n - (intOf i).toNat)
      case atStart => exact ⟨0, _, rfl, Nat.zero_le _, rfl, Lib.hid rfl, HY0.out, HX.out, HA.out, HB.out⟩
      case round =>
        obtain ⟨t, wq, rfl, ht, rfl, hp, hy, hx, hz, hb⟩ := hrel
        clear HX HA HB HY0
        have HY := Lib.hid hy; have HX := Lib.hid hx; have HZ := Lib.hid hz; have HB := Lib.hid hb
        clear hy hx hz hb
        by_cases hlt : t < n
        · have hd : decide (t < n) = true := decide_eq_true hlt
          have HC := Lib.hid (HM.out t _ wq HX.out HY.out.rowB HZ.out)
          have HS1 := Lib.hid (HST.out t hp.out)
          have HN1 := Lib.hid (HNB.out t hp.out)
          cases hm : mulB m (powS m a t).1 a
          · have HR := Lib.hid (HNO.out (HSK.out (t + 1) (HN1.out hm) (by omega)))
            rw [hm] at HC
            rw [HR.out.1, HR.out.2]
            clear HR HN1 HS1 hm
            generalize mulL m (powS m a t).1 a = Q at *
            go_wp2_with fail
            refine HC.out.mono ?_
            rintro e w3 ⟨u, rfl, hu, hb⟩
            replace HB := Lib.hid (HB.out.trans (hb.mono HB.out.size))
            clear hu hb HC
            go_wp2_with fail
            go_ret2
            exact ⟨_, rfl, ⟨RowI.nil' _ _ _, Nat.le_refl _⟩, HB.out⟩
          · rw [hm] at HC HS1
            clear HN1 hm
            go_wp2_with fail
            refine HC.out.mono ?_
            rintro e w3 ⟨u, rfl, hu, hb⟩
            have HU := Lib.hid (hu.1.mono HB.out.size (Nat.le_refl _))
            replace HX := Lib.hid (HX.out.upE hb); replace HZ := Lib.hid (HZ.out.upE hb)
            replace HB := Lib.hid (HB.out.trans (hb.mono HB.out.size))
            clear hu hb HC
            go_wp2_with fail
            exact ⟨⟨t + 1, _, rfl, by omega, by go_num, Lib.hid (by rw [HS1.out]), by rw [HS1.out]; exact HU.out, HX.out, HZ.out, HB.out⟩, by simp [intOf]; omega⟩
        · obtain rfl : t = n := by omega
          have hd : decide (t < t) = false := by simp
          have HR := Lib.hid (HYES.out hp.out)
          have hr1 := HR.out.1
          have HY2 := Lib.hid (show RowI w.heap.size wq.heap.size wq _ PL by rw [HR.out.2]; exact HY.out)
          subst hr1
          clear HR HY
          go_wp2_with fail
          go_ret2
          exact ⟨_, rfl, ⟨HY2.out, Nat.le_refl _⟩, HB.out⟩
end Go.Proofs.YtnlbmnielemgiaaGreat
