/-
  Elements: what one operation on two words returns in the program (printed by mk_eli.py).
  Elements: what the program's products, inverses and conjugates return (printed by mk_eli.py).
-/
import Derived.Test.YtnlbmnielemgiaaGreatEz23
import Derived.Test.YtnlbmnielemgiaaGreatEz24
import Derived.Test.YtnlbmnielemgiaaGreatEz29
import Derived.Test.YtnlbmnielemgiaaGreatEz31
import Derived.Test.YtnlbmnielemgiaaGreatEz32
namespace Go.Proofs.YtnlbmnielemgiaaGreat
open Go.RowKit

theorem iswi_e (v v' : Value) (m : List (List Int)) (l : List Int) (w : World) (h : MatB w.heap.size w v m) (h' : RowB w.heap.size w v' l) (hf : RowsFit m) (hl : l.length ≤ 1048576) :
    Calls Tryz.prog 41 #[v, v'] w fun e w' => e = .returned (.bool (wordB m l)) ∧ Below w.heap.size w w' :=
  (iswi_any _ _ v v' m l w h h' hf (by unfold maxLen; omega)).mono fun e w' ⟨h1, q, h2⟩ => ⟨h1, by rw [h2]; exact below_drewN q⟩
theorem eqwi_e (v v' : Value) (l l' : List Int) (w : World) (h : RowB w.heap.size w v l) (h' : RowB w.heap.size w v' l') (hl : l.length ≤ 1048576) (hl' : l'.length ≤ 1048576) :
    Calls Tryz.prog 36 #[v, v'] w fun e w' => e = .returned (.bool (eqwB l l')) ∧ Below w.heap.size w w' :=
  (eqwi_any _ v v' l l' w h h' (by unfold maxLen; omega) (by unfold maxLen; omega)).mono fun e w' ⟨h1, h2⟩ => ⟨h1, by rw [← h2]; exact Below.refl _ _⟩
set_option maxHeartbeats 4000000 in
set_option maxRecDepth 100000 in
theorem ucat_e (va vb : Value) (a b : List Int) (w : World) (ha : RowB w.heap.size w va a) (hb : RowB w.heap.size w vb b) (hla : a.length ≤ 1048576) (hlb : b.length ≤ 1048576) :
    Calls Tryz.prog 40 #[va, vb] w (MakesS w (a.reverse ++ b)) := by
  have HA := Lib.hid ha; have HV := Lib.hid hb
  clear ha hb
  have HR := Lib.hid (fun (wx : World) (hy : RowB wx.heap.size wx va a) => wrev_any _ va a wx hy (Nat.le_refl _) hla)
  have HC := Lib.hid (fun (z : Value) (wx : World) (hz : RowB wx.heap.size wx z a.reverse) (hy : RowB wx.heap.size wx vb b) => wcat_any _ z vb a.reverse b wx hz hy (Nat.le_refl _) (by rw [List.length_reverse]; exact hla) hlb)
  clear hla hlb
  generalize a.reverse ++ b = R at *
  generalize a.reverse = ar at *
  have HB := Lib.hid (Below.refl w.heap.size w)
  go_enter Tryz.func40, Tryz.ntmps40
  go_wp2_with fail
  refine (HR.out _ HA.out).mono ?_
  rintro e w1 ⟨z, rfl, hz, hb⟩
  replace HA := Lib.hid (HA.out.upE hb)
  replace HV := Lib.hid (HV.out.upE hb)
  have HZ := Lib.hid (hz.1.rowB)
  replace HB := Lib.hid (HB.out.trans (hb.mono HB.out.size))
  clear hb
  go_wp2_with fail
  clear hz
  refine (HC.out z _ HZ.out HV.out).mono ?_
  rintro e w2 ⟨y, rfl, hy, hb⟩
  replace HA := Lib.hid (HA.out.upE hb)
  replace HV := Lib.hid (HV.out.upE hb)
  replace HZ := Lib.hid (HZ.out.upE hb)
  have HY := Lib.hid ((hy.1).mono HB.out.size (Nat.le_refl _))
  replace HB := Lib.hid (HB.out.trans (hb.mono HB.out.size))
  clear hb
  go_wp2_with fail
  go_ret
  exact ⟨_, rfl, ⟨HY.out, Nat.le_refl _⟩, HB.out⟩
set_option maxHeartbeats 4000000 in
set_option maxRecDepth 100000 in
theorem elbc_e (v va vb : Value) (m : List (List Int)) (a b ws : List Int) (w : World) (h : MatB w.heap.size w v m) (ha : RowB w.heap.size w va a) (hb : RowB w.heap.size w vb b) (hf : RowsFit m) (hla : a.length ≤ 1048576) (hlb : b.length ≤ 1048576) (hwd : IsW m a → IsW m b → Wd m ws)
    (hop : ∀ wx : World, RowB wx.heap.size wx va a → RowB wx.heap.size wx vb b → Calls Tryz.prog 33 #[va, vb] wx (MakesS wx ws)) :
    Calls Tryz.prog 32 #[v, .func (.func 33) #[] #[], va, vb] w (MakesS2 w (elbL m a b ws) (.bool (elbB m a b ws))) := by
  have HX := Lib.hid h; have HA := Lib.hid ha; have HV := Lib.hid hb
  clear h ha hb
  have HI1 := Lib.hid (fun (wx : World) (hx : MatB wx.heap.size wx v m) (hy : RowB wx.heap.size wx va a) => iswi_e v va m a wx hx hy hf hla)
  have HI2 := Lib.hid (fun (wx : World) (hx : MatB wx.heap.size wx v m) (hy : RowB wx.heap.size wx vb b) => iswi_e v vb m b wx hx hy hf hlb)
  have HOP := Lib.hid hop
  clear hop
  by_cases h1 : IsW m a
  case neg =>
    have hv : elbB m a b ws = false := by unfold elbB; rw [wordB_no h1]; rfl
    rw [show elbL m a b ws = [] by unfold elbL; rw [hv]; rfl, hv]
    rw [wordB_no h1] at HI1
    clear h1 HI2 HOP hwd hf hv
    have HB := Lib.hid (Below.refl w.heap.size w)
    go_enter Tryz.func32, Tryz.ntmps32
    go_wp2_with fail
    refine (HI1.out _ HX.out HA.out).mono ?_
    rintro e w1 ⟨rfl, hb⟩
    replace HX := Lib.hid (HX.out.upE hb)
    replace HA := Lib.hid (HA.out.upE hb)
    replace HV := Lib.hid (HV.out.upE hb)
    replace HB := Lib.hid (HB.out.trans (hb.mono HB.out.size))
    clear hb
    go_wp2_with fail
    go_ret2
    exact ⟨_, rfl, ⟨RowI.nil' _ _ _, Nat.le_refl _⟩, HB.out⟩
  case pos =>
    by_cases h2 : IsW m b
    case neg =>
      have hv : elbB m a b ws = false := by unfold elbB; rw [wordB_yes h1, wordB_no h2]; rfl
      rw [show elbL m a b ws = [] by unfold elbL; rw [hv]; rfl, hv]
      rw [wordB_yes h1] at HI1; rw [wordB_no h2] at HI2
      clear h1 h2 HOP hwd hf hv
      have HB := Lib.hid (Below.refl w.heap.size w)
      go_enter Tryz.func32, Tryz.ntmps32
      go_wp2_with fail
      refine (HI1.out _ HX.out HA.out).mono ?_
      rintro e w1 ⟨rfl, hb⟩
      replace HX := Lib.hid (HX.out.upE hb)
      replace HA := Lib.hid (HA.out.upE hb)
      replace HV := Lib.hid (HV.out.upE hb)
      replace HB := Lib.hid (HB.out.trans (hb.mono HB.out.size))
      clear hb
      go_wp2_with fail
      refine (HI2.out _ HX.out HV.out).mono ?_
      rintro e w2 ⟨rfl, hb⟩
      replace HX := Lib.hid (HX.out.upE hb)
      replace HA := Lib.hid (HA.out.upE hb)
      replace HV := Lib.hid (HV.out.upE hb)
      replace HB := Lib.hid (HB.out.trans (hb.mono HB.out.size))
      clear hb
      go_wp2_with fail
      go_ret2
      exact ⟨_, rfl, ⟨RowI.nil' _ _ _, Nat.le_refl _⟩, HB.out⟩
    case pos =>
      have hv : elbB m a b ws = decide ((fitL m ws).length ≤ 15) := by unfold elbB; rw [wordB_yes h1, wordB_yes h2, Bool.true_and, Bool.true_and]
      have hv2 : elbL m a b ws = if (fitL m ws).length ≤ 15 then fitL m ws else [] := by unfold elbL; rw [hv]; simp only [decide_eq_true_eq]
      have hw := hwd h1 h2
      have HF := Lib.hid (fun (z : Value) (wx : World) (hx : MatB wx.heap.size wx v m) (hz : RowB wx.heap.size wx z ws) => show Calls Tryz.prog 62 #[v, z] wx (MakesS wx (fitL m ws)) from frwi_any _ _ v z m ws wx hx hz (Nat.le_refl _) (Nat.le_refl _) hf hw.car hw.lets hw.short)
      rw [hv, hv2]
      rw [wordB_yes h1] at HI1; rw [wordB_yes h2] at HI2
      clear h1 h2 hv hv2 hf hwd hw
      generalize fitL m ws = R at *
      by_cases h15 : R.length ≤ 15
      case pos =>
        have hd : decide ((15 : Int) < (R.length : Int)) = false := decide_eq_false (by omega)
        have hp : ¬ ((15 : Int) < (R.length : Int)) := by omega
        rw [if_pos h15, decide_eq_true h15]
        have HB := Lib.hid (Below.refl w.heap.size w)
        go_enter Tryz.func32, Tryz.ntmps32
        go_wp2_with fail
        refine (HI1.out _ HX.out HA.out).mono ?_
        rintro e w1 ⟨rfl, hb⟩
        replace HX := Lib.hid (HX.out.upE hb)
        replace HA := Lib.hid (HA.out.upE hb)
        replace HV := Lib.hid (HV.out.upE hb)
        replace HB := Lib.hid (HB.out.trans (hb.mono HB.out.size))
        clear hb
        go_wp2_with fail
        refine (HI2.out _ HX.out HV.out).mono ?_
        rintro e w2 ⟨rfl, hb⟩
        replace HX := Lib.hid (HX.out.upE hb)
        replace HA := Lib.hid (HA.out.upE hb)
        replace HV := Lib.hid (HV.out.upE hb)
        replace HB := Lib.hid (HB.out.trans (hb.mono HB.out.size))
        clear hb
        go_wp2_with fail
        refine (HOP.out _ HA.out HV.out).mono ?_
        rintro e w3 ⟨z, rfl, hz, hb⟩
        replace HX := Lib.hid (HX.out.upE hb)
        replace HA := Lib.hid (HA.out.upE hb)
        replace HV := Lib.hid (HV.out.upE hb)
        have HZ := Lib.hid (hz.1.rowB)
        replace HB := Lib.hid (HB.out.trans (hb.mono HB.out.size))
        clear hb
        go_wp2_with fail
        clear hz
        refine (HF.out z _ HX.out HZ.out).mono ?_
        rintro e w4 ⟨y, rfl, hy, hb⟩
        replace HX := Lib.hid (HX.out.upE hb)
        replace HA := Lib.hid (HA.out.upE hb)
        replace HV := Lib.hid (HV.out.upE hb)
        replace HZ := Lib.hid (HZ.out.upE hb)
        have HY := Lib.hid ((hy.1).mono HB.out.size (Nat.le_refl _))
        replace HB := Lib.hid (HB.out.trans (hb.mono HB.out.size))
        clear hb
        obtain ⟨ya, ycap, rfl⟩ := hy.1.slice
        clear hy
        go_wp2_with fail
        go_ret2
        exact ⟨_, rfl, ⟨HY.out, Nat.le_refl _⟩, HB.out⟩
      case neg =>
        have hd : decide ((15 : Int) < (R.length : Int)) = true := decide_eq_true (by omega)
        have hp : ((15 : Int) < (R.length : Int)) := by omega
        rw [if_neg h15, decide_eq_false h15]
        have HB := Lib.hid (Below.refl w.heap.size w)
        go_enter Tryz.func32, Tryz.ntmps32
        go_wp2_with fail
        refine (HI1.out _ HX.out HA.out).mono ?_
        rintro e w1 ⟨rfl, hb⟩
        replace HX := Lib.hid (HX.out.upE hb)
        replace HA := Lib.hid (HA.out.upE hb)
        replace HV := Lib.hid (HV.out.upE hb)
        replace HB := Lib.hid (HB.out.trans (hb.mono HB.out.size))
        clear hb
        go_wp2_with fail
        refine (HI2.out _ HX.out HV.out).mono ?_
        rintro e w2 ⟨rfl, hb⟩
        replace HX := Lib.hid (HX.out.upE hb)
        replace HA := Lib.hid (HA.out.upE hb)
        replace HV := Lib.hid (HV.out.upE hb)
        replace HB := Lib.hid (HB.out.trans (hb.mono HB.out.size))
        clear hb
        go_wp2_with fail
        refine (HOP.out _ HA.out HV.out).mono ?_
        rintro e w3 ⟨z, rfl, hz, hb⟩
        replace HX := Lib.hid (HX.out.upE hb)
        replace HA := Lib.hid (HA.out.upE hb)
        replace HV := Lib.hid (HV.out.upE hb)
        have HZ := Lib.hid (hz.1.rowB)
        replace HB := Lib.hid (HB.out.trans (hb.mono HB.out.size))
        clear hb
        go_wp2_with fail
        clear hz
        refine (HF.out z _ HX.out HZ.out).mono ?_
        rintro e w4 ⟨y, rfl, hy, hb⟩
        replace HX := Lib.hid (HX.out.upE hb)
        replace HA := Lib.hid (HA.out.upE hb)
        replace HV := Lib.hid (HV.out.upE hb)
        replace HZ := Lib.hid (HZ.out.upE hb)
        have HY := Lib.hid ((hy.1).mono HB.out.size (Nat.le_refl _))
        replace HB := Lib.hid (HB.out.trans (hb.mono HB.out.size))
        clear hb
        obtain ⟨ya, ycap, rfl⟩ := hy.1.slice
        clear hy
        go_wp2_with fail
        go_ret2
        exact ⟨_, rfl, ⟨RowI.nil' _ _ _, Nat.le_refl _⟩, HB.out⟩
set_option maxHeartbeats 4000000 in
set_option maxRecDepth 100000 in
theorem elbu_e (v va vb : Value) (m : List (List Int)) (a b ws : List Int) (w : World) (h : MatB w.heap.size w v m) (ha : RowB w.heap.size w va a) (hb : RowB w.heap.size w vb b) (hf : RowsFit m) (hla : a.length ≤ 1048576) (hlb : b.length ≤ 1048576) (hwd : IsW m a → IsW m b → Wd m ws)
    (hop : ∀ wx : World, RowB wx.heap.size wx va a → RowB wx.heap.size wx vb b → Calls Tryz.prog 40 #[va, vb] wx (MakesS wx ws)) :
    Calls Tryz.prog 32 #[v, .func (.func 40) #[] #[], va, vb] w (MakesS2 w (elbL m a b ws) (.bool (elbB m a b ws))) := by
  have HX := Lib.hid h; have HA := Lib.hid ha; have HV := Lib.hid hb
  clear h ha hb
  have HI1 := Lib.hid (fun (wx : World) (hx : MatB wx.heap.size wx v m) (hy : RowB wx.heap.size wx va a) => iswi_e v va m a wx hx hy hf hla)
  have HI2 := Lib.hid (fun (wx : World) (hx : MatB wx.heap.size wx v m) (hy : RowB wx.heap.size wx vb b) => iswi_e v vb m b wx hx hy hf hlb)
  have HOP := Lib.hid hop
  clear hop
  by_cases h1 : IsW m a
  case neg =>
    have hv : elbB m a b ws = false := by unfold elbB; rw [wordB_no h1]; rfl
    rw [show elbL m a b ws = [] by unfold elbL; rw [hv]; rfl, hv]
    rw [wordB_no h1] at HI1
    clear h1 HI2 HOP hwd hf hv
    have HB := Lib.hid (Below.refl w.heap.size w)
    go_enter Tryz.func32, Tryz.ntmps32
    go_wp2_with fail
    refine (HI1.out _ HX.out HA.out).mono ?_
    rintro e w1 ⟨rfl, hb⟩
    replace HX := Lib.hid (HX.out.upE hb)
    replace HA := Lib.hid (HA.out.upE hb)
    replace HV := Lib.hid (HV.out.upE hb)
    replace HB := Lib.hid (HB.out.trans (hb.mono HB.out.size))
    clear hb
    go_wp2_with fail
    go_ret2
    exact ⟨_, rfl, ⟨RowI.nil' _ _ _, Nat.le_refl _⟩, HB.out⟩
  case pos =>
    by_cases h2 : IsW m b
    case neg =>
      have hv : elbB m a b ws = false := by unfold elbB; rw [wordB_yes h1, wordB_no h2]; rfl
      rw [show elbL m a b ws = [] by unfold elbL; rw [hv]; rfl, hv]
      rw [wordB_yes h1] at HI1; rw [wordB_no h2] at HI2
      clear h1 h2 HOP hwd hf hv
      have HB := Lib.hid (Below.refl w.heap.size w)
      go_enter Tryz.func32, Tryz.ntmps32
      go_wp2_with fail
      refine (HI1.out _ HX.out HA.out).mono ?_
      rintro e w1 ⟨rfl, hb⟩
      replace HX := Lib.hid (HX.out.upE hb)
      replace HA := Lib.hid (HA.out.upE hb)
      replace HV := Lib.hid (HV.out.upE hb)
      replace HB := Lib.hid (HB.out.trans (hb.mono HB.out.size))
      clear hb
      go_wp2_with fail
      refine (HI2.out _ HX.out HV.out).mono ?_
      rintro e w2 ⟨rfl, hb⟩
      replace HX := Lib.hid (HX.out.upE hb)
      replace HA := Lib.hid (HA.out.upE hb)
      replace HV := Lib.hid (HV.out.upE hb)
      replace HB := Lib.hid (HB.out.trans (hb.mono HB.out.size))
      clear hb
      go_wp2_with fail
      go_ret2
      exact ⟨_, rfl, ⟨RowI.nil' _ _ _, Nat.le_refl _⟩, HB.out⟩
    case pos =>
      have hv : elbB m a b ws = decide ((fitL m ws).length ≤ 15) := by unfold elbB; rw [wordB_yes h1, wordB_yes h2, Bool.true_and, Bool.true_and]
      have hv2 : elbL m a b ws = if (fitL m ws).length ≤ 15 then fitL m ws else [] := by unfold elbL; rw [hv]; simp only [decide_eq_true_eq]
      have hw := hwd h1 h2
      have HF := Lib.hid (fun (z : Value) (wx : World) (hx : MatB wx.heap.size wx v m) (hz : RowB wx.heap.size wx z ws) => show Calls Tryz.prog 62 #[v, z] wx (MakesS wx (fitL m ws)) from frwi_any _ _ v z m ws wx hx hz (Nat.le_refl _) (Nat.le_refl _) hf hw.car hw.lets hw.short)
      rw [hv, hv2]
      rw [wordB_yes h1] at HI1; rw [wordB_yes h2] at HI2
      clear h1 h2 hv hv2 hf hwd hw
      generalize fitL m ws = R at *
      by_cases h15 : R.length ≤ 15
      case pos =>
        have hd : decide ((15 : Int) < (R.length : Int)) = false := decide_eq_false (by omega)
        have hp : ¬ ((15 : Int) < (R.length : Int)) := by omega
        rw [if_pos h15, decide_eq_true h15]
        have HB := Lib.hid (Below.refl w.heap.size w)
        go_enter Tryz.func32, Tryz.ntmps32
        go_wp2_with fail
        refine (HI1.out _ HX.out HA.out).mono ?_
        rintro e w1 ⟨rfl, hb⟩
        replace HX := Lib.hid (HX.out.upE hb)
        replace HA := Lib.hid (HA.out.upE hb)
        replace HV := Lib.hid (HV.out.upE hb)
        replace HB := Lib.hid (HB.out.trans (hb.mono HB.out.size))
        clear hb
        go_wp2_with fail
        refine (HI2.out _ HX.out HV.out).mono ?_
        rintro e w2 ⟨rfl, hb⟩
        replace HX := Lib.hid (HX.out.upE hb)
        replace HA := Lib.hid (HA.out.upE hb)
        replace HV := Lib.hid (HV.out.upE hb)
        replace HB := Lib.hid (HB.out.trans (hb.mono HB.out.size))
        clear hb
        go_wp2_with fail
        refine (HOP.out _ HA.out HV.out).mono ?_
        rintro e w3 ⟨z, rfl, hz, hb⟩
        replace HX := Lib.hid (HX.out.upE hb)
        replace HA := Lib.hid (HA.out.upE hb)
        replace HV := Lib.hid (HV.out.upE hb)
        have HZ := Lib.hid (hz.1.rowB)
        replace HB := Lib.hid (HB.out.trans (hb.mono HB.out.size))
        clear hb
        go_wp2_with fail
        clear hz
        refine (HF.out z _ HX.out HZ.out).mono ?_
        rintro e w4 ⟨y, rfl, hy, hb⟩
        replace HX := Lib.hid (HX.out.upE hb)
        replace HA := Lib.hid (HA.out.upE hb)
        replace HV := Lib.hid (HV.out.upE hb)
        replace HZ := Lib.hid (HZ.out.upE hb)
        have HY := Lib.hid ((hy.1).mono HB.out.size (Nat.le_refl _))
        replace HB := Lib.hid (HB.out.trans (hb.mono HB.out.size))
        clear hb
        obtain ⟨ya, ycap, rfl⟩ := hy.1.slice
        clear hy
        go_wp2_with fail
        go_ret2
        exact ⟨_, rfl, ⟨HY.out, Nat.le_refl _⟩, HB.out⟩
      case neg =>
        have hd : decide ((15 : Int) < (R.length : Int)) = true := decide_eq_true (by omega)
        have hp : ((15 : Int) < (R.length : Int)) := by omega
        rw [if_neg h15, decide_eq_false h15]
        have HB := Lib.hid (Below.refl w.heap.size w)
        go_enter Tryz.func32, Tryz.ntmps32
        go_wp2_with fail
        refine (HI1.out _ HX.out HA.out).mono ?_
        rintro e w1 ⟨rfl, hb⟩
        replace HX := Lib.hid (HX.out.upE hb)
        replace HA := Lib.hid (HA.out.upE hb)
        replace HV := Lib.hid (HV.out.upE hb)
        replace HB := Lib.hid (HB.out.trans (hb.mono HB.out.size))
        clear hb
        go_wp2_with fail
        refine (HI2.out _ HX.out HV.out).mono ?_
        rintro e w2 ⟨rfl, hb⟩
        replace HX := Lib.hid (HX.out.upE hb)
        replace HA := Lib.hid (HA.out.upE hb)
        replace HV := Lib.hid (HV.out.upE hb)
        replace HB := Lib.hid (HB.out.trans (hb.mono HB.out.size))
        clear hb
        go_wp2_with fail
        refine (HOP.out _ HA.out HV.out).mono ?_
        rintro e w3 ⟨z, rfl, hz, hb⟩
        replace HX := Lib.hid (HX.out.upE hb)
        replace HA := Lib.hid (HA.out.upE hb)
        replace HV := Lib.hid (HV.out.upE hb)
        have HZ := Lib.hid (hz.1.rowB)
        replace HB := Lib.hid (HB.out.trans (hb.mono HB.out.size))
        clear hb
        go_wp2_with fail
        clear hz
        refine (HF.out z _ HX.out HZ.out).mono ?_
        rintro e w4 ⟨y, rfl, hy, hb⟩
        replace HX := Lib.hid (HX.out.upE hb)
        replace HA := Lib.hid (HA.out.upE hb)
        replace HV := Lib.hid (HV.out.upE hb)
        replace HZ := Lib.hid (HZ.out.upE hb)
        have HY := Lib.hid ((hy.1).mono HB.out.size (Nat.le_refl _))
        replace HB := Lib.hid (HB.out.trans (hb.mono HB.out.size))
        clear hb
        obtain ⟨ya, ycap, rfl⟩ := hy.1.slice
        clear hy
        go_wp2_with fail
        go_ret2
        exact ⟨_, rfl, ⟨RowI.nil' _ _ _, Nat.le_refl _⟩, HB.out⟩
end Go.Proofs.YtnlbmnielemgiaaGreat
namespace Go.Proofs.YtnlbmnielemgiaaGreat
open Go.RowKit

set_option maxHeartbeats 4000000 in
set_option maxRecDepth 100000 in
theorem muli_e (v va vb : Value) (m : List (List Int)) (a b : List Int) (w : World) (h : MatB w.heap.size w v m) (ha : RowB w.heap.size w va a) (hb : RowB w.heap.size w vb b) (hf : RowsFit m) (hla : a.length ≤ 1048576) (hlb : b.length ≤ 1048576) :
    Calls Tryz.prog 6 #[v, va, vb] w (MakesS2 w (mulL m a b) (.bool (mulB m a b))) := by
  have HX := Lib.hid h; have HA := Lib.hid ha; have HV := Lib.hid hb
  clear h ha hb
  have HC := Lib.hid (fun (wx : World) (hx : MatB wx.heap.size wx v m) (hy : RowB wx.heap.size wx va a) (hz : RowB wx.heap.size wx vb b) => elbc_e v va vb m a b (a ++ b) wx hx hy hz hf hla hlb wd_cat (fun wy h1 h2 => wcat_any _ va vb a b wy h1 h2 (Nat.le_refl _) hla hlb))
  rw [(elb_mul m a b).1, (elb_mul m a b).2] at HC
  clear hf hla hlb
  generalize mulL m a b = R at *
  generalize mulB m a b = D at *
  have HB := Lib.hid (Below.refl w.heap.size w)
  go_enter Tryz.func6, Tryz.ntmps6
  go_wp2_with fail
  refine (HC.out _ HX.out HA.out HV.out).mono ?_
  rintro e w1 ⟨y, rfl, hy, hb⟩
  replace HX := Lib.hid (HX.out.upE hb)
  replace HA := Lib.hid (HA.out.upE hb)
  replace HV := Lib.hid (HV.out.upE hb)
  have HY := Lib.hid ((hy.1).mono HB.out.size (Nat.le_refl _))
  replace HB := Lib.hid (HB.out.trans (hb.mono HB.out.size))
  clear hb
  go_wp2_with fail
  go_ret2
  exact ⟨_, rfl, ⟨HY.out, Nat.le_refl _⟩, HB.out⟩
set_option maxHeartbeats 4000000 in
set_option maxRecDepth 100000 in
theorem invi_e (v va : Value) (m : List (List Int)) (a : List Int) (w : World) (h : MatB w.heap.size w v m) (ha : RowB w.heap.size w va a) (hf : RowsFit m) (hla : a.length ≤ 1048576) :
    Calls Tryz.prog 12 #[v, va] w (MakesS2 w (invL m a) (.bool (invB m a))) := by
  have HX := Lib.hid h; have HA := Lib.hid ha
  clear h ha
  have HC := Lib.hid (fun (wx : World) (hx : MatB wx.heap.size wx v m) (hy : RowB wx.heap.size wx va a) => elbu_e v va (.slice none 0 0) m a [] (a.reverse ++ []) wx hx hy (.inl ⟨rfl, _, _, rfl⟩) hf hla (Nat.zero_le _) (fun h1 _ => by rw [List.append_nil]; exact wd_of (isW_rev h1)) (fun wy h1 h2 => ucat_e va (.slice none 0 0) a [] wy h1 h2 hla (Nat.zero_le _)))
  rw [(elb_inv m a).1, (elb_inv m a).2] at HC
  clear hf hla
  generalize invL m a = R at *
  generalize invB m a = D at *
  have HB := Lib.hid (Below.refl w.heap.size w)
  go_enter Tryz.func12, Tryz.ntmps12
  go_wp2_with fail
  refine (HC.out _ HX.out HA.out).mono ?_
  rintro e w1 ⟨y, rfl, hy, hb⟩
  replace HX := Lib.hid (HX.out.upE hb)
  replace HA := Lib.hid (HA.out.upE hb)
  have HY := Lib.hid ((hy.1).mono HB.out.size (Nat.le_refl _))
  replace HB := Lib.hid (HB.out.trans (hb.mono HB.out.size))
  clear hb
  go_wp2_with fail
  go_ret2
  exact ⟨_, rfl, ⟨HY.out, Nat.le_refl _⟩, HB.out⟩
set_option maxHeartbeats 4000000 in
set_option maxRecDepth 100000 in
theorem elmi_e (v va : Value) (m : List (List Int)) (a : List Int) (w : World) (h : MatB w.heap.size w v m) (ha : RowB w.heap.size w va a) (hf : RowsFit m) (hla : a.length ≤ 1048576) :
    Calls Tryz.prog 9 #[v, va] w fun e w' => e = .returned (.bool (elemB m a)) ∧ Below w.heap.size w w' := by
  have HX := Lib.hid h; have HA := Lib.hid ha
  clear h ha
  have HN := Lib.hid (fun (wx : World) (hx : MatB wx.heap.size wx v m) (hy : RowB wx.heap.size wx va a) => nrmi_any _ _ v va m a wx hx hy (Nat.le_refl _) (Nat.le_refl _) hf hla)
  have hnl := nrmL_len m a
  have HE := Lib.hid (fun (z : Value) (wx : World) (hz : RowB wx.heap.size wx z (nrmL m a)) (hy : RowB wx.heap.size wx va a) => eqwi_e z va (nrmL m a) a wx hz hy (by omega) hla)
  cases hW : wordB m a
  case false =>
    rw [show elemB m a = false by unfold elemB; rw [hW]; rfl]
    rw [hW] at HN
    clear hW HE hf hnl
    generalize nrmL m a = R at *
    have HB := Lib.hid (Below.refl w.heap.size w)
    go_enter Tryz.func9, Tryz.ntmps9
    go_wp2_with fail
    refine (HN.out _ HX.out HA.out).mono ?_
    rintro e w1 ⟨z, rfl, hz, hb⟩
    replace HX := Lib.hid (HX.out.upE hb)
    replace HA := Lib.hid (HA.out.upE hb)
    replace HB := Lib.hid (HB.out.trans (hb.mono HB.out.size))
    clear hb
    go_wp2_with fail
    go_ret
    exact ⟨rfl, HB.out⟩
  case true =>
    rw [show elemB m a = eqwB (nrmL m a) a by unfold elemB; rw [hW, Bool.true_and]]
    rw [hW] at HN
    clear hW hf hnl
    generalize eqwB (nrmL m a) a = D at *
    generalize nrmL m a = R at *
    have HB := Lib.hid (Below.refl w.heap.size w)
    go_enter Tryz.func9, Tryz.ntmps9
    go_wp2_with fail
    refine (HN.out _ HX.out HA.out).mono ?_
    rintro e w1 ⟨z, rfl, hz, hb⟩
    replace HX := Lib.hid (HX.out.upE hb)
    replace HA := Lib.hid (HA.out.upE hb)
    have HZ := Lib.hid (hz.1.rowB)
    replace HB := Lib.hid (HB.out.trans (hb.mono HB.out.size))
    clear hb
    go_wp2_with fail
    refine (HE.out z _ HZ.out HA.out).mono ?_
    rintro e w2 ⟨rfl, hb⟩
    replace HX := Lib.hid (HX.out.upE hb)
    replace HA := Lib.hid (HA.out.upE hb)
    replace HZ := Lib.hid (HZ.out.upE hb)
    replace HB := Lib.hid (HB.out.trans (hb.mono HB.out.size))
    clear hb
    go_wp2_with fail
    go_ret
    exact ⟨rfl, HB.out⟩
set_option maxHeartbeats 4000000 in
set_option maxRecDepth 100000 in
theorem cnji_e (v va vb : Value) (m : List (List Int)) (a b : List Int) (w : World) (h : MatB w.heap.size w v m) (ha : RowB w.heap.size w va a) (hb : RowB w.heap.size w vb b) (hf : RowsFit m) (hla : a.length ≤ 1048576) (hlb : b.length ≤ 1048576) :
    Calls Tryz.prog 20 #[v, va, vb] w (MakesS2 w (cnjL m a b) (.bool (cnjB m a b))) := by
  have HX := Lib.hid h; have HA := Lib.hid ha; have HV := Lib.hid hb
  clear h ha hb
  have HM := Lib.hid (fun (wx : World) (hx : MatB wx.heap.size wx v m) (hy : RowB wx.heap.size wx va a) (hz : RowB wx.heap.size wx vb b) => elbu_e v vb va m b a (b.reverse ++ a) wx hx hz hy hf hlb hla (fun h1 h2 => wd_cat (isW_rev h1) h2) (fun wy h1 h2 => ucat_e vb va b a wy h1 h2 hlb hla))
  rw [(elb_front m a b).1, (elb_front m a b).2] at HM
  have hl1 : (mulL m b.reverse a).length ≤ 31 := by unfold mulL; split; exact fitL_len m _; exact Nat.zero_le _
  have HM2 := Lib.hid (fun (z : Value) (wx : World) (hx : MatB wx.heap.size wx v m) (hz : RowB wx.heap.size wx z (mulL m b.reverse a)) (hy : RowB wx.heap.size wx vb b) => muli_e v z vb m (mulL m b.reverse a) b wx hx hz hy hf (by omega) hlb)
  cases hW : mulB m b.reverse a
  case false =>
    have hv : cnjB m a b = false := by unfold cnjB; rw [hW]; rfl
    rw [hv, show cnjL m a b = [] by unfold cnjL; rw [hv]; rfl]
    rw [hW] at HM
    clear hv hW HM2 hf hl1
    generalize mulL m b.reverse a = R at *
    have HB := Lib.hid (Below.refl w.heap.size w)
    go_enter Tryz.func20, Tryz.ntmps20
    go_wp2_with fail
    refine (HM.out _ HX.out HA.out HV.out).mono ?_
    rintro e w1 ⟨y, rfl, hy, hb⟩
    replace HX := Lib.hid (HX.out.upE hb)
    replace HA := Lib.hid (HA.out.upE hb)
    replace HV := Lib.hid (HV.out.upE hb)
    replace HB := Lib.hid (HB.out.trans (hb.mono HB.out.size))
    clear hb
    go_wp2_with fail
    go_ret2
    exact ⟨_, rfl, ⟨RowI.nil' _ _ _, Nat.le_refl _⟩, HB.out⟩
  case true =>
    have hv : cnjB m a b = mulB m (mulL m b.reverse a) b := by unfold cnjB; rw [hW, Bool.true_and]
    have hv2 : cnjL m a b = mulL m (mulL m b.reverse a) b := by
      unfold cnjL
      rw [hv]
      split
      · rfl
      · rename_i h9; exact (mul_no (by simpa using h9)).symm
    rw [hv, hv2]
    rw [hW] at HM
    clear hv hv2 hW hf hl1
    generalize mulL m (mulL m b.reverse a) b = R2 at *
    generalize mulB m (mulL m b.reverse a) b = D2 at *
    generalize mulL m b.reverse a = R at *
    have HB := Lib.hid (Below.refl w.heap.size w)
    go_enter Tryz.func20, Tryz.ntmps20
    go_wp2_with fail
    refine (HM.out _ HX.out HA.out HV.out).mono ?_
    rintro e w1 ⟨y, rfl, hy, hb⟩
    replace HX := Lib.hid (HX.out.upE hb)
    replace HA := Lib.hid (HA.out.upE hb)
    replace HV := Lib.hid (HV.out.upE hb)
    have HY := Lib.hid (hy.1.rowB)
    replace HB := Lib.hid (HB.out.trans (hb.mono HB.out.size))
    clear hb
    go_wp2_with fail
    clear hy
    refine (HM2.out y _ HX.out HY.out HV.out).mono ?_
    rintro e w2 ⟨u, rfl, hu, hb⟩
    replace HX := Lib.hid (HX.out.upE hb)
    replace HA := Lib.hid (HA.out.upE hb)
    replace HV := Lib.hid (HV.out.upE hb)
    replace HY := Lib.hid (HY.out.upE hb)
    have HU := Lib.hid ((hu.1).mono HB.out.size (Nat.le_refl _))
    replace HB := Lib.hid (HB.out.trans (hb.mono HB.out.size))
    clear hb
    go_wp2_with fail
    go_ret2
    exact ⟨_, rfl, ⟨HU.out, Nat.le_refl _⟩, HB.out⟩
end Go.Proofs.YtnlbmnielemgiaaGreat
