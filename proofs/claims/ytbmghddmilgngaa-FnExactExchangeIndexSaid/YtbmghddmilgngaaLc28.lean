/-
  Exchange and deletion: what the model's ExchangeIndex and DeletionPair return.
  Elements: the program's ways to the same answers (no walk here).
-/
import Derived.Test.YtbmghddmilgngaaLc27
import Derived.Test.YtbmghddmilgngaaLc22
namespace Go.Proofs.Ytbmghddmilgngaa
open Go.RowKit

theorem lit_int (w : World) (x : Int) : RowB (w.alloc (.cells #[.int .i64 x] 3)).heap.size (w.alloc (.cells #[.int .i64 x] 3)) (.slice (some ⟨w.heap.size, 0, none⟩) 1 1) [x] := by
  refine Or.inr ⟨w.heap.size, 0, 1, rfl, by simp, fun j hj => ?_⟩
  obtain rfl : j = 0 := by simp at hj; omega
  rw [Nat.zero_add, cell_of_row _ w.heap.size 0 _ _ _ (MapKept.heap_alloc w _).1]
  rfl
theorem img9_e (v z : Value) (m : List (List Int)) (ws : List Int) (w : World) (h : MatB w.heap.size w v m) (h' : RowB w.heap.size w z ws) (hf : RowsFit m) (hw : Wd m ws) :
    Calls Try.prog 46 #[v, z] w (MakesS w (imgW m ws)) :=
  img8_any _ _ v z m ws w h h' (Nat.le_refl _) (Nat.le_refl _) hf hw.car hw.lets (by have := hw.short; omega)
theorem exI_no {m : List (List Int)} {ws : List Int} {i : Int} (h : ¬ (redB m ws = true ∧ i ∈ ldsL m ws)) : exI m ws i = -1 := if_neg h
theorem exI_at {m : List (List Int)} {ws : List Int} {i : Int} (h : redB m ws = true ∧ i ∈ ldsL m ws) {k : Nat} (hk : k < ws.length) (h1 : ∀ j, j < k → exP m ws i j = false) (h2 : exP m ws i k = true) : exI m ws i = (k : Int) := by
  unfold exI
  rw [if_pos h, fst_at h1 hk h2]
theorem exI_none {m : List (List Int)} {ws : List Int} {i : Int} (h1 : ∀ j, j < ws.length → exP m ws i j = false) : exI m ws i = -1 := by
  unfold exI
  rw [fst_none h1]
  split <;> rfl
theorem upto_step {p : Nat → Bool} {k : Nat} (h : ∀ j, j < k → p j = false) (hk : p k = false) : ∀ j, j < k + 1 → p j = false := fun j hj => by
  rcases Nat.lt_or_ge j k with h1 | h1
  · exact h j h1
  · obtain rfl : j = k := by omega
    exact hk
set_option maxHeartbeats 4000000 in
set_option maxRecDepth 100000 in
theorem exs_e (v vw : Value) (m : List (List Int)) (ws : List Int) (i : Int) (w : World) (h : MatB w.heap.size w v m) (hr : RowB w.heap.size w vw ws) (hf : RowsFit m) (hl : ws.length ≤ 1048576) :
    Calls Try.prog 12 #[v, vw, .int .i64 i] w fun e w' => e = .returned (.int .i64 (exI m ws i)) ∧ Below w.heap.size w w' := by
  have HX := Lib.hid h; have HW := Lib.hid hr
  clear h hr
  have HRD := Lib.hid (fun (wx : World) (hx : MatB wx.heap.size wx v m) (hy : RowB wx.heap.size wx vw ws) => show Calls Try.prog 13 #[v, vw] wx fun e w' => e = .returned (.bool (redB m ws)) ∧ Below wx.heap.size wx w' from isrd_any _ _ v vw m ws wx hx hy (Nat.le_refl _) (Nat.le_refl _) hf hl)
  have HB := Lib.hid (Below.refl w.heap.size w)
  cases hred : redB m ws
  case false =>
    rw [exI_no (by rw [hred]; simp)]
    rw [hred] at HRD
    clear hred hf hl
    go_enter Try.func12, Try.ntmps12
    go_wp2_with fail
    refine (HRD.out _ HX.out HW.out).mono ?_
    rintro e w1 ⟨rfl, hb⟩
    replace HB := Lib.hid (HB.out.trans (hb.mono HB.out.size))
    clear hb
    go_wp2_with fail
    go_ret
    exact ⟨rfl, HB.out⟩
  case true =>
    have HLD := Lib.hid (fun (wx : World) (hx : MatB wx.heap.size wx v m) (hy : RowB wx.heap.size wx vw ws) => ldss_any _ _ v vw m ws wx hx hy (Nat.le_refl _) (Nat.le_refl _) hf hl)
    have HHAS := Lib.hid (fun (z : Value) (wx : World) (hz : RowB wx.heap.size wx z (ldsL m ws)) => hasx_e z (ldsL m ws) i wx hz (by have := ldsL_len m ws; unfold maxLen; omega))
    rw [hred] at HRD
    by_cases hi : i ∈ ldsL m ws
    case neg =>
      rw [exI_no (fun hc => hi hc.2)]
      rw [decide_eq_false hi] at HHAS
      clear hred hi hf hl
      generalize ldsL m ws = dl at *
      go_enter Try.func12, Try.ntmps12
      go_wp2_with fail
      refine (HRD.out _ HX.out HW.out).mono ?_
      rintro e w1 ⟨rfl, hb⟩
      replace HX := Lib.hid (HX.out.upE hb); replace HW := Lib.hid (HW.out.upE hb)
      replace HB := Lib.hid (HB.out.trans (hb.mono HB.out.size))
      clear hb
      go_wp2_with fail
      refine (HLD.out _ HX.out HW.out).mono ?_
      rintro e w2 ⟨z, rfl, hz, hb⟩
      have HZ := Lib.hid hz.1.rowB
      replace HB := Lib.hid (HB.out.trans (hb.mono HB.out.size))
      clear hb hz
      go_wp2_with fail
      refine (HHAS.out z _ HZ.out).mono ?_
      rintro e w3 ⟨rfl, hb⟩
      replace HB := Lib.hid (HB.out.trans (hb.mono HB.out.size))
      clear hb
      go_wp2_with fail
      go_ret
      exact ⟨rfl, HB.out⟩
    case pos =>
      have hc : redB m ws = true ∧ i ∈ ldsL m ws := ⟨hred, hi⟩
      obtain ⟨hW, _⟩ := red_is hred
      obtain ⟨t, hti, ht, _⟩ := lds_letter hW hi
      rw [decide_eq_true hi] at HHAS
      have HCT := Lib.hid (fun (wx : World) (hy : RowB wx.heap.size wx vw ws) => cats_any _ _ (.slice (some ⟨wx.heap.size, 0, none⟩) 1 1) vw [i] ws (wx.alloc (.cells #[.int .i64 i] 3)) (lit_int wx i) (hy.upE ((Below.refl _ _).alloc (Nat.le_refl _) _)) (Nat.le_refl _) (Nat.le_refl _) (by simp) hl)
      have HTG := Lib.hid (fun (z : Value) (wx : World) (hx : MatB wx.heap.size wx v m) (hz : RowB wx.heap.size wx z ([i] ++ ws)) => show Calls Try.prog 46 #[v, z] wx (MakesS wx (imgW m (i :: ws))) from img9_e v z m (i :: ws) wx hx hz hf (by rw [hti]; exact wd_front hW ht))
      have HDL := Lib.hid (fun (k : Nat) (wx : World) (hy : RowB wx.heap.size wx vw ws) => dels_e vw ws (k : Int) wx hy hl)
      have HIM := Lib.hid (fun (k : Nat) (z : Value) (wx : World) (hx : MatB wx.heap.size wx v m) (hz : RowB wx.heap.size wx z (delL ws (k : Int))) => img9_e v z m (delL ws (k : Int)) wx hx hz hf (wd_of (isW_del hW _)))
      have HEQ := Lib.hid (fun (k : Nat) (x y : Value) (wx : World) (hx : RowB wx.heap.size wx x (imgW m (delL ws (k : Int)))) (hy : RowB wx.heap.size wx y (imgW m (i :: ws))) => show Calls Try.prog 47 #[x, y] wx fun e w' => e = .returned (.bool (exP m ws i k)) ∧ Below wx.heap.size wx w' from eqws_e x y _ _ wx hx hy (by rw [imgW_len]; have := hW.2.1.2.2.2; omega) (by rw [imgW_len]; have := hW.2.1.2.2.2; omega))
      have HAT := Lib.hid (fun (k : Nat) (hk : k < ws.length) (h1 : ∀ j, j < k → exP m ws i j = false) (h2 : exP m ws i k = true) => exI_at hc hk h1 h2)
      have HNN := Lib.hid (fun (h1 : ∀ j, j < ws.length → exP m ws i j = false) => exI_none h1)
      have HUP := Lib.hid (fun (k : Nat) (h1 : ∀ j, j < k → exP m ws i j = false) (h2 : exP m ws i k = false) => upto_step h1 h2)
      obtain ⟨wa, wcap, rfl⟩ := HW.out.slice
      clear hred hi hc hW hf hti ht
      generalize exI m ws i = R at *
      generalize ldsL m ws = dl at *
      generalize imgW m (i :: ws) = tg at *
      generalize hn : ws.length = n at *
      clear hn
      go_enter Try.func12, Try.ntmps12
      go_wp2_with fail
      refine (HRD.out _ HX.out HW.out).mono ?_
      rintro e w1 ⟨rfl, hb⟩
      replace HX := Lib.hid (HX.out.upE hb); replace HW := Lib.hid (HW.out.upE hb)
      replace HB := Lib.hid (HB.out.trans (hb.mono HB.out.size))
      clear hb
      go_wp2_with fail
      refine (HLD.out _ HX.out HW.out).mono ?_
      rintro e w2 ⟨z, rfl, hz, hb⟩
      replace HX := Lib.hid (HX.out.upE hb); replace HW := Lib.hid (HW.out.upE hb)
      have HZ := Lib.hid hz.1.rowB
      replace HB := Lib.hid (HB.out.trans (hb.mono HB.out.size))
      clear hb hz
      go_wp2_with fail
      refine (HHAS.out z _ HZ.out).mono ?_
      rintro e w3 ⟨rfl, hb⟩
      replace HX := Lib.hid (HX.out.upE hb); replace HW := Lib.hid (HW.out.upE hb)
      replace HB := Lib.hid (HB.out.trans (hb.mono HB.out.size))
      clear hb HZ HHAS HLD HRD
      have hb1 : Below w3.heap.size w3 (w3.alloc (.cells #[.int .i64 i] 3)) := (Below.refl _ _).alloc (Nat.le_refl _) _
      have HC := Lib.hid (HCT.out w3 HW.out)
      replace HX := Lib.hid (HX.out.upE hb1); replace HW := Lib.hid (HW.out.upE hb1)
      replace HB := Lib.hid (HB.out.trans (hb1.mono HB.out.size))
      clear hb1 HCT
      go_wp2_with fail
      refine HC.out.mono ?_
      rintro e w4 ⟨z, rfl, hz, hb⟩
      replace HX := Lib.hid (HX.out.upE hb); replace HW := Lib.hid (HW.out.upE hb)
      replace HB := Lib.hid (HB.out.trans (hb.mono HB.out.size))
      have HZ := Lib.hid hz.1.rowB
      clear hb hz HC
      go_wp2_with fail
      refine (HTG.out z _ HX.out HZ.out).mono ?_
      rintro e w5 ⟨vt, rfl, ht, hb⟩
      replace HX := Lib.hid (HX.out.upE hb); replace HW := Lib.hid (HW.out.upE hb)
      replace HB := Lib.hid (HB.out.trans (hb.mono HB.out.size))
      have HT := Lib.hid ht.1.rowB
      clear hb ht HZ HTG
      go_wp2_with fail
      go_loopw [8] (fun o wr => ∃ (k : Nat) (wq : World), wq = wr ∧ k ≤ n ∧ o = .int .i64 k ∧ Hid (∀ j, j < k → exP m ws i j = false) ∧ MatB wq.heap.size wq v m ∧ RowB wq.heap.size wq (.slice wa n wcap) ws ∧ RowB wq.heap.size wq vt tg ∧ Below w.heap.size w wq) (fun o _ => n - (RowKit.intOf o).toNat)
      case atStart => exact ⟨0, _, rfl, Nat.zero_le _, rfl, Lib.hid (fun j hj => absurd hj (Nat.not_lt_zero _)), HX.out, HW.out, HT.out, HB.out⟩
      case round =>
        obtain ⟨k, wq, rfl, hk, rfl, hp, hx, hy, hz, hb⟩ := hrel
        clear HX HW HT HB
        have HX := Lib.hid hx; have HW := Lib.hid hy; have HT := Lib.hid hz; have HB := Lib.hid hb
        clear hx hy hz hb
        by_cases hlt : k < n
        · have hd : decide ((k : Int) < (n : Int)) = true := decide_eq_true (by omega)
          have hdn : decide (k < n) = true := decide_eq_true hlt
          go_wp2_with fail
          refine (HDL.out k _ HW.out).mono ?_
          rintro e w6 ⟨z, rfl, hz, hb⟩
          replace HX := Lib.hid (HX.out.upE hb); replace HW := Lib.hid (HW.out.upE hb); replace HT := Lib.hid (HT.out.upE hb)
          replace HB := Lib.hid (HB.out.trans (hb.mono HB.out.size))
          have HZ := Lib.hid hz.1.rowB
          clear hb hz
          go_wp2_with fail
          refine (HIM.out k z _ HX.out HZ.out).mono ?_
          rintro e w7 ⟨y, rfl, hy, hb⟩
          replace HX := Lib.hid (HX.out.upE hb); replace HW := Lib.hid (HW.out.upE hb); replace HT := Lib.hid (HT.out.upE hb)
          replace HB := Lib.hid (HB.out.trans (hb.mono HB.out.size))
          have HY := Lib.hid hy.1.rowB
          clear hb hy HZ
          go_wp2_with fail
          have HQ := Lib.hid (HEQ.out k y vt _ HY.out HT.out)
          have HA := Lib.hid (HAT.out k hlt hp.out)
          have HU := Lib.hid (HUP.out k hp.out)
          cases hq : exP m ws i k
          · rw [hq] at HQ
            have HN := Lib.hid (HU.out hq)
            clear hq HA HU
            refine HQ.out.mono ?_
            rintro e w8 ⟨rfl, hb⟩
            replace HX := Lib.hid (HX.out.upE hb); replace HW := Lib.hid (HW.out.upE hb); replace HT := Lib.hid (HT.out.upE hb)
            replace HB := Lib.hid (HB.out.trans (hb.mono HB.out.size))
            clear hb HY HQ
            go_wp2_with fail
            exact ⟨⟨k + 1, _, rfl, by omega, by go_num, HN, HX.out, HW.out, HT.out, HB.out⟩, by simp [RowKit.intOf]; omega⟩
          · rw [hq] at HQ
            have hR := HA.out hq
            clear hq HA HU
            refine HQ.out.mono ?_
            rintro e w8 ⟨rfl, hb⟩
            replace HB := Lib.hid (HB.out.trans (hb.mono HB.out.size))
            have HR := Lib.hid hR
            clear hb HY HQ hR
            go_wp2_with fail
            go_ret
            exact ⟨by rw [HR.out]; rfl, HB.out⟩
        · obtain rfl : k = n := by omega
          have hd : decide ((k : Int) < (k : Int)) = false := by simp
          have HR := Lib.hid (HNN.out hp.out)
          go_wp2_with fail
          go_ret
          exact ⟨by rw [HR.out]; rfl, HB.out⟩
theorem dlP_no {m : List (List Int)} {ws : List Int} (h : ¬ IsW m ws) : dlP m ws = none := by unfold dlP; rw [wordB_no h]; rfl
theorem dlP_yes {m : List (List Int)} {ws : List Int} (h : IsW m ws) : dlP m ws = prP (dlQ m ws) ws.length := if_pos (wordB_yes h)
theorem dl_none {m : List (List Int)} {ws : List Int} (h : dlP m ws = none) : dlI m ws = -1 ∧ dlJ m ws = -1 ∧ dlB m ws = false := by
  unfold dlI dlJ dlB; rw [h]; exact ⟨rfl, rfl, rfl⟩
theorem dl_some {m : List (List Int)} {ws : List Int} {a b : Nat} (h : dlP m ws = some (a, b)) : dlI m ws = (a : Int) ∧ dlJ m ws = (b : Int) ∧ dlB m ws = true := by
  unfold dlI dlJ dlB; rw [h]; exact ⟨rfl, rfl, rfl⟩
theorem rows_step {q : Nat → Nat → Bool} {n i : Nat} (h : ∀ x, x < i → ∀ y, x < y → y < n → q x y = false) (h2 : ∀ y, i < y → y < n → q i y = false) : ∀ x, x < i + 1 → ∀ y, x < y → y < n → q x y = false := fun x hx y hxy hy => by
  rcases Nat.lt_or_ge x i with h1 | h1
  · exact h x h1 y hxy hy
  · obtain rfl : x = i := by omega
    exact h2 y hxy hy
theorem row_step {q : Nat → Nat → Bool} {i j : Nat} (h : ∀ y, i < y → y < j → q i y = false) (h2 : q i j = false) : ∀ y, i < y → y < j + 1 → q i y = false := fun y hy hyj => by
  rcases Nat.lt_or_ge y j with h1 | h1
  · exact h y hy h1
  · obtain rfl : y = j := by omega
    exact h2
set_option maxHeartbeats 4000000 in
set_option maxRecDepth 100000 in
theorem dps_e (v vw : Value) (m : List (List Int)) (ws : List Int) (w : World) (h : MatB w.heap.size w v m) (hr : RowB w.heap.size w vw ws) (hf : RowsFit m) (hl : ws.length ≤ 1048576) :
    Calls Try.prog 22 #[v, vw] w fun e w' => e = .returned (.tuple #[.int .i64 (dlI m ws), .int .i64 (dlJ m ws), .bool (dlB m ws)]) ∧ Below w.heap.size w w' := by
  have HX := Lib.hid h; have HW := Lib.hid hr
  clear h hr
  have HIW := Lib.hid (fun (wx : World) (hx : MatB wx.heap.size wx v m) (hy : RowB wx.heap.size wx vw ws) => isws_e v vw m ws wx hx hy hf hl)
  have HB := Lib.hid (Below.refl w.heap.size w)
  by_cases hW : IsW m ws
  case neg =>
    obtain ⟨e1, e2, e3⟩ := dl_none (dlP_no hW)
    rw [e1, e2, e3]
    rw [wordB_no hW] at HIW
    clear hW hf hl e1 e2 e3
    go_enter Try.func22, Try.ntmps22
    go_wp2_with fail
    refine (HIW.out _ HX.out HW.out).mono ?_
    rintro e w1 ⟨rfl, hb⟩
    replace HB := Lib.hid (HB.out.trans (hb.mono HB.out.size))
    clear hb
    go_wp2_with fail
    go_ret3
    exact ⟨rfl, HB.out⟩
  case pos =>
    rw [wordB_yes hW] at HIW
    have HTG := Lib.hid (fun (wx : World) (hx : MatB wx.heap.size wx v m) (hz : RowB wx.heap.size wx vw ws) => img9_e v vw m ws wx hx hz hf (wd_of hW))
    have HD1 := Lib.hid (fun (j : Nat) (wx : World) (hy : RowB wx.heap.size wx vw ws) => dels_e vw ws (j : Int) wx hy hl)
    have HD2 := Lib.hid (fun (i j : Nat) (z : Value) (wx : World) (hy : RowB wx.heap.size wx z (delL ws (j : Int))) => dels_e z (delL ws (j : Int)) (i : Int) wx hy (Nat.le_trans (delL_le _ _) hl))
    have HIM := Lib.hid (fun (i j : Nat) (z : Value) (wx : World) (hx : MatB wx.heap.size wx v m) (hz : RowB wx.heap.size wx z (delL (delL ws (j : Int)) (i : Int))) => img9_e v z m _ wx hx hz hf (wd_of (isW_del (isW_del hW _) _)))
    have HEQ := Lib.hid (fun (i j : Nat) (x y : Value) (wx : World) (hx : RowB wx.heap.size wx x (imgW m (delL (delL ws (j : Int)) (i : Int)))) (hy : RowB wx.heap.size wx y (imgW m ws)) => show Calls Try.prog 47 #[x, y] wx fun e w' => e = .returned (.bool (dlQ m ws i j)) ∧ Below wx.heap.size wx w' from eqws_e x y _ _ wx hx hy (by rw [imgW_len]; have := hW.2.1.2.2.2; omega) (by rw [imgW_len]; have := hW.2.1.2.2.2; omega))
    have HAT := Lib.hid (fun (i j : Nat) (hij : i < j) (hj : j < ws.length) (h1 : ∀ x, x < i → ∀ y, x < y → y < ws.length → dlQ m ws x y = false) (h2 : ∀ y, i < y → y < j → dlQ m ws i y = false) (h3 : dlQ m ws i j = true) => dl_some (show dlP m ws = some (i, j) from by rw [dlP_yes hW]; exact prP_at hij hj h3 h1 h2))
    have HNN := Lib.hid (fun (h1 : ∀ x, x < ws.length → ∀ y, x < y → y < ws.length → dlQ m ws x y = false) => dl_none (show dlP m ws = none from by rw [dlP_yes hW]; exact prP_none fun x y hxy hy => h1 x (by omega) y hxy hy))
    obtain ⟨wa, wcap, rfl⟩ := HW.out.slice
    have hn15 := hW.2.2
    clear hW hf hl
    generalize dlI m ws = RI at *
    generalize dlJ m ws = RJ at *
    generalize dlB m ws = RB at *
    generalize imgW m ws = tg at *
    generalize hn : ws.length = n at *
    clear hn
    go_enter Try.func22, Try.ntmps22
    go_wp2_with fail
    refine (HIW.out _ HX.out HW.out).mono ?_
    rintro e w1 ⟨rfl, hb⟩
    replace HX := Lib.hid (HX.out.upE hb); replace HW := Lib.hid (HW.out.upE hb)
    replace HB := Lib.hid (HB.out.trans (hb.mono HB.out.size))
    clear hb HIW
    go_wp2_with fail
    refine (HTG.out _ HX.out HW.out).mono ?_
    rintro e w2 ⟨vt, rfl, ht, hb⟩
    replace HX := Lib.hid (HX.out.upE hb); replace HW := Lib.hid (HW.out.upE hb)
    replace HB := Lib.hid (HB.out.trans (hb.mono HB.out.size))
    have HT := Lib.hid ht.1.rowB
    clear hb ht HTG
    go_wp2_with fail
    go_loopw [8] (fun o wr => ∃ (i : Nat) (wq : World), wq = wr ∧ i ≤ n ∧ o = .int .i64 i ∧ Hid (∀ x, x < i → ∀ y, x < y → y < n → dlQ m ws x y = false) ∧ MatB wq.heap.size wq v m ∧ RowB wq.heap.size wq (.slice wa n wcap) ws ∧ RowB wq.heap.size wq vt tg ∧ Below w.heap.size w wq) (fun o _ => n - (RowKit.intOf o).toNat)
    case atStart => exact ⟨0, _, rfl, Nat.zero_le _, rfl, Lib.hid (fun j hj => absurd hj (Nat.not_lt_zero _)), HX.out, HW.out, HT.out, HB.out⟩
    case round =>
      obtain ⟨i, wq, rfl, hi, rfl, hp, hx, hy, hz, hb⟩ := hrel
      clear HX HW HT HB
      have HX := Lib.hid hx; have HW := Lib.hid hy; have HT := Lib.hid hz; have HB := Lib.hid hb
      clear hx hy hz hb
      by_cases hlt : i < n
      · have hd : decide ((i : Int) < (n : Int)) = true := decide_eq_true (by omega)
        have hdn : decide (i < n) = true := decide_eq_true hlt
        go_wp2_with fail
        go_loopw [9] (fun o wr => ∃ (j : Nat) (wp : World), wp = wr ∧ i + 1 ≤ j ∧ j ≤ n ∧ o = .int .i64 j ∧ Hid (∀ y, i < y → y < j → dlQ m ws i y = false) ∧ MatB wp.heap.size wp v m ∧ RowB wp.heap.size wp (.slice wa n wcap) ws ∧ RowB wp.heap.size wp vt tg ∧ Below w.heap.size w wp) (fun o _ => n - (RowKit.intOf o).toNat)
        case atStart => exact ⟨i + 1, _, rfl, Nat.le_refl _, by omega, by go_num, Lib.hid (fun y hy hy2 => by omega), HX.out, HW.out, HT.out, HB.out⟩
        case round =>
          obtain ⟨j, wp, rfl, hij, hj, rfl, hq, hx, hy, hz, hb⟩ := hrel
          clear HX HW HT HB
          have HX := Lib.hid hx; have HW := Lib.hid hy; have HT := Lib.hid hz; have HB := Lib.hid hb
          clear hx hy hz hb
          by_cases hjl : j < n
          · have hdj : decide ((j : Int) < (n : Int)) = true := decide_eq_true (by omega)
            have hdjn : decide (j < n) = true := decide_eq_true hjl
            go_wp2_with fail
            refine (HD1.out j _ HW.out).mono ?_
            rintro e w6 ⟨z, rfl, hz, hb⟩
            replace HX := Lib.hid (HX.out.upE hb); replace HW := Lib.hid (HW.out.upE hb); replace HT := Lib.hid (HT.out.upE hb)
            replace HB := Lib.hid (HB.out.trans (hb.mono HB.out.size))
            have HZ := Lib.hid hz.1.rowB
            clear hb hz
            go_wp2_with fail
            refine (HD2.out i j z _ HZ.out).mono ?_
            rintro e w7 ⟨z2, rfl, hz, hb⟩
            replace HX := Lib.hid (HX.out.upE hb); replace HW := Lib.hid (HW.out.upE hb); replace HT := Lib.hid (HT.out.upE hb)
            replace HB := Lib.hid (HB.out.trans (hb.mono HB.out.size))
            have HZ2 := Lib.hid hz.1.rowB
            clear hb hz HZ
            go_wp2_with fail
            refine (HIM.out i j z2 _ HX.out HZ2.out).mono ?_
            rintro e w8 ⟨y, rfl, hy, hb⟩
            replace HX := Lib.hid (HX.out.upE hb); replace HW := Lib.hid (HW.out.upE hb); replace HT := Lib.hid (HT.out.upE hb)
            replace HB := Lib.hid (HB.out.trans (hb.mono HB.out.size))
            have HY := Lib.hid hy.1.rowB
            clear hb hy HZ2
            go_wp2_with fail
            have HQ := Lib.hid (HEQ.out i j y vt _ HY.out HT.out)
            have HA := Lib.hid (HAT.out i j hij hjl hp.out hq.out)
            cases hqq : dlQ m ws i j
            · rw [hqq] at HQ
              have HN := Lib.hid (row_step (q := dlQ m ws) hq.out hqq)
              clear hqq HA
              refine HQ.out.mono ?_
              rintro e w9 ⟨rfl, hb⟩
              replace HX := Lib.hid (HX.out.upE hb); replace HW := Lib.hid (HW.out.upE hb); replace HT := Lib.hid (HT.out.upE hb)
              replace HB := Lib.hid (HB.out.trans (hb.mono HB.out.size))
              clear hb HY HQ
              go_wp2_with fail
              exact ⟨⟨j + 1, _, rfl, by omega, by omega, by go_num, HN, HX.out, HW.out, HT.out, HB.out⟩, by simp [RowKit.intOf]; omega⟩
            · rw [hqq] at HQ
              obtain ⟨e1, e2, e3⟩ := HA.out hqq
              have HR := Lib.hid (And.intro e1 (And.intro e2 e3))
              clear hqq HA e1 e2 e3
              refine HQ.out.mono ?_
              rintro e w9 ⟨rfl, hb⟩
              replace HB := Lib.hid (HB.out.trans (hb.mono HB.out.size))
              clear hb HY HQ
              go_wp2_with fail
              go_ret3
              exact ⟨by rw [HR.out.1, HR.out.2.1, HR.out.2.2]; rfl, HB.out⟩
          · obtain rfl : j = n := by omega
            have hdj : decide ((j : Int) < (j : Int)) = false := by simp
            have HN := Lib.hid (rows_step (q := dlQ m ws) hp.out hq.out)
            go_wp2_with fail
            exact ⟨⟨i + 1, _, rfl, by omega, by go_num, HN, HX.out, HW.out, HT.out, HB.out⟩, by simp [RowKit.intOf]; omega⟩
      · obtain rfl : i = n := by omega
        have hd : decide ((i : Int) < (i : Int)) = false := by simp
        obtain ⟨e1, e2, e3⟩ := HNN.out hp.out
        have HR := Lib.hid (And.intro e1 (And.intro e2 e3))
        clear e1 e2 e3
        go_wp2_with fail
        go_ret3
        exact ⟨by rw [HR.out.1, HR.out.2.1, HR.out.2.2]; rfl, HB.out⟩
end Go.Proofs.Ytbmghddmilgngaa
namespace Go.Proofs.Ytbmghddmilgngaa
open Go.RowKit

theorem isW_nil {m : List (List Int)} (h : IsC m) : IsW m [] := ⟨fun _j hj => absurd hj (Nat.not_lt_zero _), h, Nat.zero_le _⟩
theorem wordB_rev (m : List (List Int)) (w : List Int) : wordB m w.reverse = wordB m w := by
  by_cases h : IsW m w
  · rw [wordB_yes h, wordB_yes (isW_rev h)]
  · rw [wordB_no h, wordB_no (fun h' => h (by have := isW_rev h'; rwa [List.reverse_reverse] at this))]
/-- What the program answers by one operation on two words. -/
noncomputable def elbB (m : List (List Int)) (a b ws : List Int) : Bool := wordB m a && wordB m b && decide ((fitL m ws).length ≤ 15)
noncomputable def elbL (m : List (List Int)) (a b ws : List Int) : List Int := if elbB m a b ws = true then fitL m ws else []
theorem elb_mul (m : List (List Int)) (a b : List Int) : elbB m a b (a ++ b) = mulB m a b ∧ elbL m a b (a ++ b) = mulL m a b := ⟨rfl, rfl⟩
theorem elb_inv (m : List (List Int)) (a : List Int) : elbB m a [] (a.reverse ++ []) = invB m a ∧ elbL m a [] (a.reverse ++ []) = invL m a := by
  rw [List.append_nil]
  have e : elbB m a [] a.reverse = invB m a := by
    unfold elbB invB
    rw [wordB_rev]
    by_cases h : IsW m a
    · have h2 := (fit_spec (wd_of (isW_rev h))).2.1
      have h3 := h.2.2
      rw [List.length_reverse] at h2
      rw [wordB_yes h, wordB_yes (isW_nil h.2.1), decide_eq_true (by omega)]; rfl
    · rw [wordB_no h]; rfl
  refine ⟨e, ?_⟩
  unfold elbL invL
  rw [e]
  unfold invB
  by_cases h : IsW m a
  · rw [wordB_yes (isW_rev h), if_pos rfl, nrm_fit (isW_rev h)]
  · rw [if_neg (by rw [wordB_rev, wordB_no h]; simp), nrmL_no (fun h' => h (by have := isW_rev h'; rwa [List.reverse_reverse] at this))]
theorem elb_front (m : List (List Int)) (a b : List Int) : elbB m b a (b.reverse ++ a) = mulB m b.reverse a ∧ elbL m b a (b.reverse ++ a) = mulL m b.reverse a := by
  have e : elbB m b a (b.reverse ++ a) = mulB m b.reverse a := by unfold elbB mulB; rw [wordB_rev]
  exact ⟨e, by unfold elbL mulL; rw [e]⟩
theorem mul_nrm {m : List (List Int)} {w : List Int} (h : IsW m w) (p : List Int) : mulB m p w = mulB m p (nrmL m w) ∧ mulL m p w = mulL m p (nrmL m w) := by
  have hn := nrm_word h
  by_cases hp : IsW m p
  · have e : fitL m (p ++ w) = fitL m (p ++ nrmL m w) := (fit_same (wd_cat hp h) (wd_cat hp hn) fun z => by
      rw [natsW_append, mapN_append, natsW_append, mapN_append, nrm_fit h, (fit_spec (wd_of h)).2.2.2.2]).2
    have e2 : mulB m p w = mulB m p (nrmL m w) := by unfold mulB; rw [e, wordB_yes h, wordB_yes hn]
    exact ⟨e2, by unfold mulL; rw [e2, e]⟩
  · have e1 : mulB m p w = false := by unfold mulB; rw [wordB_no hp]; rfl
    have e2 : mulB m p (nrmL m w) = false := by unfold mulB; rw [wordB_no hp]; rfl
    exact ⟨by rw [e1, e2], by rw [mul_no e1, mul_no e2]⟩
theorem pow_nrm {m : List (List Int)} {w : List Int} (h : IsW m w) : ∀ k, powS m w k = powS m (nrmL m w) k
  | 0 => rfl
  | k + 1 => by unfold powS; rw [pow_nrm h k, (mul_nrm h _).1, (mul_nrm h _).2]
theorem ivo_is (m : List (List Int)) (w : List Int) : ivoB m w = (samB m w w.reverse && !samB m w []) := by
  unfold ivoB
  by_cases h : IsW m w
  · have hc : comB m w w = true := by unfold comB; rw [wordB_yes h, eqwB_same]; rfl
    have hl : decide (0 < lenI m w) = !samB m w [] := by
      unfold lenI samB
      rw [wordB_yes h, wordB_yes (isW_nil h.2.1), if_pos rfl, eqwB_is, nrm_fit h, Bool.true_and, Bool.true_and]
      by_cases he : imgW m w = imgW m []
      · have h0 : fitL m w = [] := by
          have := fit_nil h.2.1
          unfold fitL at this ⊢; rw [he]; exact this
        rw [decide_eq_true he, h0]; rfl
      · have h0 : fitL m w ≠ [] := fun h0 => he (by have := (fit_spec (wd_of h)).1; rw [h0] at this; exact this.symm)
        have : 0 < (fitL m w).length := List.length_pos_iff.2 h0
        rw [decide_eq_false he, decide_eq_true (by omega)]; rfl
    rw [hc, hl, Bool.and_true, Bool.and_comm]
  · have h1 : lenI m w = -1 := by unfold lenI; rw [wordB_no h]; rfl
    rw [h1, show samB m w w.reverse = false by unfold samB; rw [wordB_no h]; rfl]; simp
theorem mulL_len (m : List (List Int)) (a b : List Int) : (mulL m a b).length ≤ 31 := by
  unfold mulL
  split
  · exact fitL_len m _
  · exact Nat.zero_le _
theorem cnjL_len (m : List (List Int)) (a b : List Int) : (cnjL m a b).length ≤ 31 := by
  unfold cnjL
  split
  · exact mulL_len m _ _
  · exact Nat.zero_le _
theorem powS_len' (m : List (List Int)) (x : List Int) : ∀ t, (powS m x t).1.length ≤ 31
  | 0 => Nat.zero_le _
  | t + 1 => by
    unfold powS
    split
    · exact mulL_len m _ _
    · exact Nat.zero_le _
theorem powL_len (m : List (List Int)) (w : List Int) (k : Int) : (powL m w k).length ≤ 31 := by
  unfold powL
  split
  · exact powS_len' m _ _
  · exact Nat.zero_le _
end Go.Proofs.Ytbmghddmilgngaa
