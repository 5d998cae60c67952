/-
  Lengths: what the model's LeftDescents, RightDescents and AreSame return.
  Words: what the program's IsWord returns.
  Lengths: what the program's NormalForm, LengthOf, IsReduced, LeftDescents and RightDescents return.
  Lengths: what the model's AreSame and SignOf return.
-/
import Derived.Test.YtnlbmnielemgiaaFl19
import Derived.Deep.QuietTactic
import Derived.BigQuiet
import Derived.Test.YtnlbmnielemgiaaFl18
import Derived.Test.YtnlbmnielemgiaaFl06
import Derived.Test.YtnlbmnielemgiaaFl07
namespace Go.Proofs.Ytnlbmnielemgiaa
open Go.RowKit

noncomputable def ldsL (m : List (List Int)) (ws : List Int) : List Int := if wordB m ws = true then dnsK (imgW m ws) m.length else []
theorem ldsL_yes {m : List (List Int)} {ws : List Int} (h : IsW m ws) : ldsL m ws = dnsK (imgW m ws) m.length := if_pos (wordB_yes h)
theorem ldsL_no {m : List (List Int)} {ws : List Int} (h : ¬ IsW m ws) : ldsL m ws = [] := by unfold ldsL; rw [wordB_no h]; rfl
theorem ldsL_len (m : List (List Int)) (ws : List Int) : (ldsL m ws).length ≤ 4 := by
  by_cases h : IsW m ws
  · rw [ldsL_yes h]; have := dnsK_len (imgW m ws) m.length; have := h.2.1.2.2.2; omega
  · rw [ldsL_no h]; simp
set_option maxHeartbeats 4000000 in
set_option maxRecDepth 100000 in
theorem ldss_any (B B' : Nat) (v v' : Value) (m : List (List Int)) (ws : List Int) (w : World) (h : MatB B w v m) (h' : RowB B' w v' ws) (hB : B ≤ w.heap.size) (hB' : B' ≤ w.heap.size) (hf : RowsFit m) (hw : ws.length ≤ 1048576) :
    Calls Try.prog 23 #[v, v'] w (MakesS w (ldsL m ws)) := by
  have hb0 : Below w.heap.size w (w.alloc (.cells #[] 3)) := (Below.refl _ _).alloc (Nat.le_refl _) _
  have HB0 := Lib.hid hb0
  have HIW := Lib.hid (isws_any B B' v v' m ws (w.alloc (.cells #[] 3)) (h.below hb0 hB) (h'.below hb0 hB') hf (by unfold maxLen; omega))
  have HM0 := Lib.hid (row_empty w)
  by_cases hW : IsW m ws
  · have HV := Lib.hid (ldsL_yes hW)
    have HWB := Lib.hid (wordB_yes hW)
    have HIM := Lib.hid (fun (wx : World) (hb : Below w.heap.size w wx) => img8_any B B' v v' m ws wx (h.below hb hB) (h'.below hb hB') (Nat.le_trans hB hb.size) (Nat.le_trans hB' hb.size) hf hW.2.1 hW.1 hw)
    have hn1 := hW.2.1.2.2.1
    have hn4 := hW.2.1.2.2.2
    have HLI := Lib.hid (imgW_len m ws)
    have HDY := Lib.hid (fun k h => dnsK_yes (l := imgW m ws) (k := k) h)
    have HDN := Lib.hid (fun k h => dnsK_no (l := imgW m ws) (k := k) h)
    have HDL := Lib.hid (fun k => dnsK_len (imgW m ws) k)
    rw [HWB.out] at HIW
    clear h h' hf hW HWB hb0
    rw [HV.out]
    clear HV
    generalize imgW m ws = im at *
    generalize hn : m.length = n at *
    clear hn
    have hsa : w.heap.size ≤ (w.alloc (.cells #[] 3)).heap.size := by simp
    go_enter Try.func23, Try.ntmps23
    go_wp2_with fail
    refine HIW.out.mono ?_
    rintro e w1 ⟨rfl, q, rfl⟩
    have HB1 := Lib.hid (HB0.out.trans ((below_drewN (w := w.alloc (.cells #[] 3)) q).mono hsa))
    have HM1 := Lib.hid (HM0.out.step (below_drewN q))
    have HC := Lib.hid (HIM.out _ HB1.out)
    clear HIW HIM HM0 HB0
    go_wp2_with fail
    refine HC.out.mono ?_
    rintro e w2 ⟨x, rfl, hx, hb2⟩
    have HX2 := Lib.hid (CurR.new (o := .slice (some ⟨w.heap.size, 0, none⟩) 0 0) hx.1 (by rw [HLI.out]; omega) (Nat.le_refl _) (fun g hg => (HM1.out.1.lt g hg).2))
    have HM2 := Lib.hid (HM1.out.step hb2)
    have HB2 := Lib.hid (HB1.out.trans (hb2.mono HB1.out.size))
    obtain ⟨xa, xcap, rfl⟩ := hx.1.slice
    clear hx hb2 HC
    rw [HLI.out] at HX2 ⊢
    go_wp2_with fail
    go_loopw [5, 7] (fun o i wr => ∃ (k : Nat) (wq : World), wq = wr ∧ k ≤ n ∧ i = .int .i64 k ∧ RowI w.heap.size wq.heap.size wq o (dnsK im k) ∧ CurR wq o (.slice xa n xcap) im ∧ Below w.heap.size w wq) (fun _ i _ => n - (intOf i).toNat)
    case atStart => exact ⟨0, _, rfl, Nat.zero_le _, rfl, HM2.out, HX2.out, HB2.out⟩
    case round =>
      obtain ⟨k, wq, rfl, hk, rfl, hM, hC, hb⟩ := hrel
      have HM := Lib.hid hM; have HB := Lib.hid hb; have HX := Lib.hid hC
      have hsq := hb.size
      have HCB := Lib.hid hC.rowB
      clear hM hb hC
      by_cases hlt : k < n
      · have hd : decide (k < n) = true := decide_eq_true hlt
        obtain ⟨b, off, rfl, hbb, hx⟩ := HCB.out.getD hlt
        by_cases hp : im.getD k 0 < 0
        · have hd2 : decide (im.getD k 0 < 0) = true := decide_eq_true hp
          have HS := Lib.hid (HDY.out k hp)
          have HRL := Lib.hid (show (dnsK im k).length ≤ 4194304 from by have := HDL.out k; omega)
          generalize im.getD k 0 = y at *
          go_wp2_with (at_builtin; go_must (refine append_intP HM.out hsq rfl (k : Int) rfl rfl rfl rfl HRL.out ?_; intro v6 w6 hr6 hg6 hl6))
          rw [HS.out] at hr6
          have HC6 := Lib.hid (HX.out.grown hg6 hl6)
          have HM6 := Lib.hid hr6
          have HB6 := Lib.hid (HB.out.grown hg6 hsq (fun j hj => (HM.out.1.lt j hj).1))
          clear hr6 hg6 hl6
          go_wp2_with fail
          exact ⟨⟨k + 1, _, rfl, by omega, by go_num, HM6.out, HC6.out, HB6.out⟩, by simp [intOf]; omega⟩
        · have hd2 : decide (im.getD k 0 < 0) = false := decide_eq_false hp
          have hs := HDN.out k (by omega)
          have HMS := Lib.hid (show RowI w.heap.size wq.heap.size wq _ (dnsK im (k + 1)) from hs ▸ HM.out)
          clear hs
          generalize im.getD k 0 = y at *
          go_wp2_with fail
          exact ⟨⟨k + 1, _, rfl, by omega, by go_num, HMS.out, HX.out, HB.out⟩, by simp [intOf]; omega⟩
      · obtain rfl : k = n := by omega
        have hd : decide (k < k) = false := by simp
        go_wp2_with fail
        go_ret
        exact ⟨_, rfl, ⟨HM.out, Nat.le_refl _⟩, HB.out⟩
  · have HV := Lib.hid (ldsL_no hW)
    have HWB := Lib.hid (wordB_no hW)
    rw [HWB.out] at HIW
    rw [HV.out]
    clear h h' hf hW HWB hb0 HV
    have hsa : w.heap.size ≤ (w.alloc (.cells #[] 3)).heap.size := by simp
    go_enter Try.func23, Try.ntmps23
    go_wp2_with fail
    refine HIW.out.mono ?_
    rintro e w1 ⟨rfl, q, rfl⟩
    have HB1 := Lib.hid (HB0.out.trans ((below_drewN (w := w.alloc (.cells #[] 3)) q).mono hsa))
    have HM1 := Lib.hid (HM0.out.step (below_drewN q))
    go_wp2_with fail
    go_ret
    exact ⟨_, rfl, ⟨HM1.out, Nat.le_refl _⟩, HB1.out⟩
set_option maxHeartbeats 4000000 in
set_option maxRecDepth 100000 in
theorem rdss_any (B B' : Nat) (v v' : Value) (m : List (List Int)) (ws : List Int) (w : World) (h : MatB B w v m) (h' : RowB B' w v' ws) (hB : B ≤ w.heap.size) (hB' : B' ≤ w.heap.size) (hf : RowsFit m) (hw : ws.length ≤ 1048576) :
    Calls Try.prog 25 #[v, v'] w (MakesS w (ldsL m ws.reverse)) := by
  have HRV := Lib.hid (revs_any B' v' ws w h' hB' hw)
  have HLD := Lib.hid (fun (x : Value) (wx : World) (hb : Below w.heap.size w wx) (hx : RowB wx.heap.size wx x ws.reverse) => ldss_any B wx.heap.size v x m ws.reverse wx (h.below hb hB) hx (Nat.le_trans hB hb.size) (Nat.le_refl _) hf (by rw [List.length_reverse]; exact hw))
  clear h h' hf
  generalize ws.reverse = rv at *
  generalize ldsL m rv = R at *
  go_enter Try.func25, Try.ntmps25
  go_wp2_with fail
  refine HRV.out.mono ?_
  rintro e w1 ⟨x, rfl, hx, hb1⟩
  have HB1 := Lib.hid hb1
  have HC := Lib.hid (HLD.out x w1 hb1 hx.1.rowB)
  clear hx hb1
  go_wp2_with fail
  refine HC.out.mono ?_
  rintro e w2 ⟨y, rfl, hy, hb2⟩
  have HY := Lib.hid (hy.1.mono HB1.out.size (Nat.le_refl _))
  have HB2 := Lib.hid (HB1.out.trans (hb2.mono HB1.out.size))
  clear hy hb2
  go_wp2_with fail
  go_ret
  exact ⟨_, rfl, ⟨HY.out, Nat.le_refl _⟩, HB2.out⟩
end Go.Proofs.Ytnlbmnielemgiaa
namespace Go.Proofs.Ytnlbmnielemgiaa
open Go.RowKit

open Classical in
noncomputable def letB (n : Nat) (l : List Int) : Bool := decide (LetTo n l l.length)
open Classical in
theorem letB_yes {n : Nat} {l : List Int} (h : LetTo n l l.length) : letB n l = true := decide_eq_true h
open Classical in
theorem letB_no {n : Nat} {l : List Int} (h : ¬ LetTo n l l.length) : letB n l = false := decide_eq_false h
open Classical in
theorem wordB_is (m : List (List Int)) (l : List Int) : wordB m l = (isB m && decide (l.length ≤ 15) && letB m.length l) := by
  by_cases hI : IsC m
  · by_cases h15 : l.length ≤ 15
    · by_cases hl : LetTo m.length l l.length
      · rw [wordB_yes ⟨hl, hI, h15⟩, isB_yes hI, decide_eq_true h15, letB_yes hl]; rfl
      · rw [wordB_no (fun h => hl h.1), letB_no hl, Bool.and_false]
    · rw [wordB_no (fun h => h15 h.2.2), decide_eq_false h15, Bool.and_false, Bool.false_and]
  · rw [wordB_no (fun h => hI h.2.1), isB_no hI, Bool.false_and, Bool.false_and]

set_option maxHeartbeats 2000000 in
set_option maxRecDepth 100000 in
theorem hop_any (B : Nat) (v : Value) (l : List Int) (ma : Option Addr) (n mcap : Nat) (w : World) (h : RowB B w v l) (hl : l.length ≤ maxLen) (hn : n ≤ 2 ^ 63 - 1) :
    Calls Try.prog 95 #[v, .slice ma n mcap] w fun e w' => e = .returned (.bool (letB n l)) ∧ w = w' := by
  obtain ⟨a, cap, rfl⟩ := h.slice
  have HL := Lib.hid h
  have HPT := Lib.hid (fun (i : Int) (c : Bool) (hc : ptB i n = c) => pt_c ma n mcap i c hc w hn)
  clear h hn
  unfold maxLen at hl
  have HNO := Lib.hid (fun (k : Nat) (hk : k < l.length) (h : ¬ (0 ≤ l.getD k 0 ∧ l.getD k 0 ≤ (n : Int) - 1)) => letB_no (n := n) (l := l) (fun h' => h (h' k hk)))
  have HYES := Lib.hid (fun (h : LetTo n l l.length) => letB_yes h)
  generalize letB n l = R at *
  generalize hln : l.length = L at *
  have HLN := Lib.hid hln; clear hln
  go_enter Try.func95, Try.ntmps95
  go_wp2_with fail
  go_loop [9] (fun i => ∃ (k : Nat), k ≤ L ∧ i = .int .i64 k ∧ Hid (LetTo n l k)) (fun i => L - (intOf i).toNat)
  case atStart => exact ⟨0, Nat.zero_le _, rfl, Lib.hid (letTo_zero _ _)⟩
  case round =>
    obtain ⟨k, hk, rfl, hs⟩ := hrel
    by_cases hlt : k < L
    · obtain ⟨b, off, rfl, hb, hc⟩ := HL.out.getD hlt
      by_cases hin : 0 ≤ l.getD k 0 ∧ l.getD k 0 ≤ (n : Int) - 1
      · have HST := Lib.hid (letTo_step hs.out hin)
        have HC := Lib.hid (HPT.out _ true (ptB_yes hin))
        clear hin hs
        generalize l.getD k 0 = x at *
        go_wp2_with fail
        refine HC.out.mono ?_
        rintro e w' ⟨rfl, rfl⟩
        go_wp2_with fail
        exact ⟨⟨k + 1, by omega, by go_num, HST⟩, by simp [intOf]; omega⟩
      · have HBAD := Lib.hid (HNO.out k hlt hin)
        have HC := Lib.hid (HPT.out _ false (ptB_no hin))
        clear hin hs
        generalize l.getD k 0 = x at *
        go_wp2_with fail
        refine HC.out.mono ?_
        rintro e w' ⟨rfl, rfl⟩
        go_wp2_with fail
        go_ret
        exact ⟨ret_boolean HBAD.out.symm, rfl⟩
    · obtain rfl : k = L := by omega
      have HE := Lib.hid (HYES.out hs.out)
      clear HNO HYES hs
      go_wp2_with fail
      go_ret
      exact ⟨ret_boolean HE.out.symm, rfl⟩

set_option maxHeartbeats 2000000 in
set_option maxRecDepth 100000 in
theorem iswi_any (B B' : Nat) (v v' : Value) (m : List (List Int)) (l : List Int) (w : World) (h : MatB B w v m) (h' : RowB B' w v' l) (hf : RowsFit m) (hl : l.length ≤ maxLen) :
    Calls Try.prog 62 #[v, v'] w fun e w' => e = .returned (.bool (wordB m l)) ∧ ∃ q, w' = w.drewN q := by
  obtain ⟨a, cap, rfl⟩ := h.slice
  have HISC := Lib.hid (fun c (hc : isB m = c) => icm_0 B _ m c hc w h hf)
  have hml := hf.1
  unfold maxLen at hml
  have HOP := Lib.hid (fun q => hop_any B' v' l a m.length cap (w.drewN q) (h'.drewN q) hl (by omega))
  obtain ⟨a', cap', rfl⟩ := h'.slice
  rw [wordB_is]
  unfold maxLen at hl
  clear h h' hf
  generalize m.length = n at *
  generalize hln : l.length = L at *
  generalize letB n l = R at *
  have HLN := Lib.hid hln; clear hln
  generalize isB m = ib at *
  cases ib with
  | false =>
    go_enter Try.func62, Try.ntmps62
    go_wp2_with fail
    refine (HISC.out _ rfl).mono ?_
    rintro e w' ⟨rfl, q, rfl⟩
    go_wp2_with fail
    go_ret
    exact ⟨ret_boolean (by simp), q, rfl⟩
  | true =>
    by_cases h15 : L ≤ 15
    · have hd : decide ((L : Int) ≤ 15) = true := decide_eq_true (by omega)
      have hd2 : decide (L ≤ 15) = true := decide_eq_true h15
      have HD := Lib.hid hd2; clear hd2
      go_enter Try.func62, Try.ntmps62
      go_wp2_with fail
      refine (HISC.out _ rfl).mono ?_
      rintro e w' ⟨rfl, q, rfl⟩
      go_wp2_with fail
      refine (HOP.out q).mono ?_
      rintro e w' ⟨rfl, rfl⟩
      go_wp2_with fail
      go_ret
      exact ⟨ret_boolean (by rw [HD.out]; simp), q, rfl⟩
    · have hd : decide ((L : Int) ≤ 15) = false := decide_eq_false (by omega)
      have hd2 : decide (L ≤ 15) = false := decide_eq_false h15
      have HD := Lib.hid hd2; clear hd2
      go_enter Try.func62, Try.ntmps62
      go_wp2_with fail
      refine (HISC.out _ rfl).mono ?_
      rintro e w' ⟨rfl, q, rfl⟩
      go_wp2_with fail
      go_ret
      exact ⟨ret_boolean (by rw [HD.out]; simp), q, rfl⟩
end Go.Proofs.Ytnlbmnielemgiaa
namespace Go.Proofs.Ytnlbmnielemgiaa
open Go.RowKit

set_option maxHeartbeats 2000000 in
set_option maxRecDepth 100000 in
theorem iml_any (B : Nat) (v : Value) (m : List (List Int)) (l : List Int) (L : Nat) (w : World) (h : MatB B w v m) (hB : B ≤ w.heap.size) (hI : IsC m) (hr : Ret m l L) :
    Calls Try.prog 78 #[v, imV l] w fun e w' => e = .returned (.int .i64 (frmI m 31 l).length) ∧ Below w.heap.size w w' := by
  obtain ⟨x0, x1, x2, x3, hv, hp⟩ := imV_parts l
  have hb0 : Below w.heap.size w (w.alloc (.cells #[.int .i64 x0, .int .i64 x1, .int .i64 x2, .int .i64 x3] 51)) := (Below.refl _ _).alloc (Nat.le_refl _) _
  have HB0 := Lib.hid hb0
  have HRT := Lib.hid (retn_any B w.heap.size v m l L (w.alloc (.cells #[.int .i64 x0, .int .i64 x1, .int .i64 x2, .int .i64 x3] 51)) (h.below hb0 hB) (Im4.new hp) hB hI hr)
  rw [hv]
  obtain ⟨a, cap, rfl⟩ := h.slice
  clear h hI hr hv hp hb0
  generalize frmI m 31 l = R at *
  generalize m.length = n at *
  go_enter Try.func78, Try.ntmps78
  go_wp2_with fail
  refine HRT.out.mono ?_
  rintro e w2 ⟨x, rfl, hx, hg⟩
  obtain ⟨xa, xcap, rfl⟩ := hx.slice
  have HB2 := Lib.hid (HB0.out.grown hg HB0.out.size (fun j hj => by have := Option.some.inj hj; omega))
  clear hx hg HRT
  go_wp2_with fail
  go_ret
  exact ⟨rfl, HB2.out⟩
set_option maxHeartbeats 2000000 in
set_option maxRecDepth 100000 in
theorem frwi_any (B B' : Nat) (v v' : Value) (m : List (List Int)) (ws : List Int) (w : World) (h : MatB B w v m) (h' : RowB B' w v' ws) (hB : B ≤ w.heap.size) (hB' : B' ≤ w.heap.size) (hf : RowsFit m) (hI : IsC m) (hW : LetTo m.length ws ws.length) (hw : ws.length ≤ 30) :
    Calls Try.prog 63 #[v, v'] w (MakesS w (frmI m 31 (imgW m ws))) := by
  obtain ⟨L, hr⟩ := ret_word hI hW hw
  have HIM := Lib.hid (iorho_any B B' v v' m ws w h h' hB hB' hf hI hW (by omega))
  obtain ⟨x0, x1, x2, x3, hv, hp⟩ := imV_parts (imgW m ws)
  rw [hv] at HIM
  have HRT := Lib.hid (fun (wx : World) (hb : Below w.heap.size w wx) => retn_any B wx.heap.size v m (imgW m ws) L (wx.alloc (.cells #[.int .i64 x0, .int .i64 x1, .int .i64 x2, .int .i64 x3] 51)) (h.below (hb.alloc hb.size _) hB) (Im4.new hp) (Nat.le_trans hB hb.size) hI hr)
  obtain ⟨a, cap, rfl⟩ := h.slice
  obtain ⟨a', cap', rfl⟩ := h'.slice
  clear h h' hf hI hW hr hv hp hw
  generalize frmI m 31 (imgW m ws) = R at *
  generalize m.length = n at *
  generalize ws.length = nw at *
  go_enter Try.func63, Try.ntmps63
  go_wp2_with fail
  refine HIM.out.mono ?_
  rintro e w2 ⟨rfl, hb2⟩
  have HB2 := Lib.hid hb2
  have HR := Lib.hid (HRT.out w2 HB2.out)
  have HB3 := Lib.hid (HB2.out.alloc HB2.out.size (.cells #[.int .i64 x0, .int .i64 x1, .int .i64 x2, .int .i64 x3] 51))
  clear hb2 HIM HRT
  go_wp2_with fail
  refine HR.out.mono ?_
  rintro e w3 ⟨x, rfl, hx, hg⟩
  have hsz := HB2.out.size
  have HX := Lib.hid (hx.mono HB3.out.size (Nat.le_refl _))
  have HB4 := Lib.hid (HB3.out.grown hg HB3.out.size (fun j hj => by have := Option.some.inj hj; omega))
  clear hx hg hsz HR
  go_wp2_with fail
  go_ret
  exact ⟨_, rfl, ⟨HX.out, Nat.le_refl _⟩, HB4.out⟩
set_option maxHeartbeats 2000000 in
set_option maxRecDepth 100000 in
theorem nrmi_any (B B' : Nat) (v v' : Value) (m : List (List Int)) (ws : List Int) (w : World) (h : MatB B w v m) (h' : RowB B' w v' ws) (hB : B ≤ w.heap.size) (hB' : B' ≤ w.heap.size) (hf : RowsFit m) (hw : ws.length ≤ 1048576) :
    Calls Try.prog 17 #[v, v'] w (MakesS2 w (nrmL m ws) (.bool (wordB m ws))) := by
  have HIW := Lib.hid (iswi_any B B' v v' m ws w h h' hf (by unfold maxLen; omega))
  by_cases hW : IsW m ws
  · have HWB := Lib.hid (wordB_yes hW)
    have HV := Lib.hid (nrmL_yes hW)
    have HFR := Lib.hid (fun (wx : World) (hb : Below w.heap.size w wx) => frwi_any B B' v v' m ws wx (h.below hb hB) (h'.below hb hB') (Nat.le_trans hB hb.size) (Nat.le_trans hB' hb.size) hf hW.2.1 hW.1 (by have := hW.2.2; omega))
    rw [HWB.out] at HIW ⊢
    rw [HV.out]
    obtain ⟨a, cap, rfl⟩ := h.slice
    obtain ⟨a', cap', rfl⟩ := h'.slice
    clear h h' hf hW HWB HV
    generalize frmI m 31 (imgW m ws) = R at *
    generalize m.length = n at *
    generalize ws.length = nw at *
    go_enter Try.func17, Try.ntmps17
    go_wp2_with fail
    refine HIW.out.mono ?_
    rintro e w1 ⟨rfl, q, rfl⟩
    have HB1 := Lib.hid (below_drewN (w := w) q)
    have HC := Lib.hid (HFR.out _ HB1.out)
    clear HIW HFR
    go_wp2_with fail
    refine HC.out.mono ?_
    rintro e w2 ⟨x, rfl, hx, hb2⟩
    have HX := Lib.hid (hx.1.mono HB1.out.size (Nat.le_refl _))
    have HB2 := Lib.hid (HB1.out.trans (hb2.mono HB1.out.size))
    clear hx hb2 HC
    go_wp2_with fail
    go_ret2
    exact ⟨_, rfl, ⟨HX.out, Nat.le_refl _⟩, HB2.out⟩
  · have HV := Lib.hid (nrmL_no hW)
    have HWB := Lib.hid (wordB_no hW)
    rw [HWB.out] at HIW ⊢
    rw [HV.out]
    obtain ⟨a, cap, rfl⟩ := h.slice
    obtain ⟨a', cap', rfl⟩ := h'.slice
    clear h h' hf hW HWB HV
    generalize m.length = n at *
    generalize ws.length = nw at *
    go_enter Try.func17, Try.ntmps17
    go_wp2_with fail
    refine HIW.out.mono ?_
    rintro e w1 ⟨rfl, q, rfl⟩
    have HB1 := Lib.hid (below_drewN (w := w) q)
    clear HIW
    go_wp2_with fail
    go_ret2
    exact ⟨_, rfl, ⟨RowI.nil' _ _ _, Nat.le_refl _⟩, HB1.out⟩
set_option maxHeartbeats 2000000 in
set_option maxRecDepth 100000 in
theorem leni_any (B B' : Nat) (v v' : Value) (m : List (List Int)) (ws : List Int) (w : World) (h : MatB B w v m) (h' : RowB B' w v' ws) (hB : B ≤ w.heap.size) (hB' : B' ≤ w.heap.size) (hf : RowsFit m) (hw : ws.length ≤ 1048576) :
    Calls Try.prog 19 #[v, v'] w fun e w' => e = .returned (.int .i64 (lenI m ws)) ∧ Below w.heap.size w w' := by
  have HN := Lib.hid (nrmi_any B B' v v' m ws w h h' hB hB' hf hw)
  have HV := Lib.hid (show lenI m ws = if wordB m ws = true then ((nrmL m ws).length : Int) else -1 from rfl)
  clear h h' hf
  generalize lenI m ws = R at *
  generalize nrmL m ws = nl at *
  generalize wordB m ws = wb at *
  cases wb with
  | true =>
    have hv := HV.out
    rw [if_pos rfl] at hv
    subst hv
    go_enter Try.func19, Try.ntmps19
    go_wp2_with fail
    refine HN.out.mono ?_
    rintro e w1 ⟨x, rfl, hx, hb1⟩
    have HB1 := Lib.hid hb1
    obtain ⟨xa, xcap, rfl⟩ := hx.1.slice
    clear hx hb1
    go_wp2_with fail
    go_ret
    exact ⟨rfl, HB1.out⟩
  | false =>
    have hv := HV.out
    rw [if_neg (by simp)] at hv
    subst hv
    go_enter Try.func19, Try.ntmps19
    go_wp2_with fail
    refine HN.out.mono ?_
    rintro e w1 ⟨x, rfl, hx, hb1⟩
    have HB1 := Lib.hid hb1
    obtain ⟨xa, xcap, rfl⟩ := hx.1.slice
    clear hx hb1
    go_wp2_with fail
    go_ret
    exact ⟨rfl, HB1.out⟩
set_option maxHeartbeats 2000000 in
set_option maxRecDepth 100000 in
theorem isrdi_any (B B' : Nat) (v v' : Value) (m : List (List Int)) (ws : List Int) (w : World) (h : MatB B w v m) (h' : RowB B' w v' ws) (hB : B ≤ w.heap.size) (hB' : B' ≤ w.heap.size) (hf : RowsFit m) (hw : ws.length ≤ 1048576) :
    Calls Try.prog 26 #[v, v'] w fun e w' => e = .returned (.bool (lenI m ws == (ws.length : Int))) ∧ Below w.heap.size w w' := by
  have HN := Lib.hid (leni_any B B' v v' m ws w h h' hB hB' hf hw)
  obtain ⟨a', cap', rfl⟩ := h'.slice
  clear h h' hf
  generalize lenI m ws = R at *
  generalize ws.length = n at *
  go_enter Try.func26, Try.ntmps26
  go_wp2_with fail
  refine HN.out.mono ?_
  rintro e w1 ⟨rfl, hb1⟩
  have HB1 := Lib.hid hb1
  clear hb1
  go_wp2_with fail
  go_ret
  exact ⟨rfl, HB1.out⟩
set_option maxHeartbeats 2000000 in
set_option maxRecDepth 100000 in
theorem ldsi_any (B B' : Nat) (v v' : Value) (m : List (List Int)) (ws : List Int) (w : World) (h : MatB B w v m) (h' : RowB B' w v' ws) (hB : B ≤ w.heap.size) (hB' : B' ≤ w.heap.size) (hf : RowsFit m) (hw : ws.length ≤ 1048576) :
    Calls Try.prog 22 #[v, v'] w (MakesS w (ldsL m ws)) := by
  have HIW := Lib.hid (iswi_any B B' v v' m ws w h h' hf (by unfold maxLen; omega))
  by_cases hW : IsW m ws
  · have HWB := Lib.hid (wordB_yes hW)
    have HV := Lib.hid (ldsL_yes hW)
    have hn4 := hW.2.1.2.2.2
    have HIM := Lib.hid (fun (wx : World) (hb : Below w.heap.size w wx) => iorho_any B B' v v' m ws wx (h.below hb hB) (h'.below hb hB') (Nat.le_trans hB hb.size) (Nat.le_trans hB' hb.size) hf hW.2.1 hW.1 hw)
    obtain ⟨x0, x1, x2, x3, hv, hp⟩ := imV_parts (imgW m ws)
    rw [hv] at HIM
    have HDS := Lib.hid (fun (wx : World) => show Calls Try.prog 67 #[.pointer (some ⟨wx.heap.size, 0, none⟩)] (wx.alloc (.cells #[.int .i64 x0, .int .i64 x1, .int .i64 x2, .int .i64 x3] 51)) (MakesS (wx.alloc (.cells #[.int .i64 x0, .int .i64 x1, .int .i64 x2, .int .i64 x3] 51)) (dnsK (imgW m ws) m.length)) from by
      have := desc_any wx.heap.size (imgW m ws) (wx.alloc (.cells #[.int .i64 x0, .int .i64 x1, .int .i64 x2, .int .i64 x3] 51)) (Im4.new hp) (by rw [imgW_len]; exact hn4)
      rw [imgW_len] at this; exact this)
    rw [HWB.out] at HIW
    rw [HV.out]
    obtain ⟨a, cap, rfl⟩ := h.slice
    obtain ⟨a', cap', rfl⟩ := h'.slice
    clear h h' hf hW HWB HV hv hp
    generalize dnsK (imgW m ws) m.length = R at *
    generalize m.length = n at *
    generalize ws.length = nw at *
    go_enter Try.func22, Try.ntmps22
    go_wp2_with fail
    refine HIW.out.mono ?_
    rintro e w1 ⟨rfl, q, rfl⟩
    have HB1 := Lib.hid (below_drewN (w := w) q)
    have HC := Lib.hid (HIM.out _ HB1.out)
    clear HIW HIM
    go_wp2_with fail
    refine HC.out.mono ?_
    rintro e w2 ⟨rfl, hb2⟩
    have HB2 := Lib.hid (HB1.out.trans (hb2.mono HB1.out.size))
    have HR := Lib.hid (HDS.out w2)
    have HB3 := Lib.hid (HB2.out.alloc HB2.out.size (.cells #[.int .i64 x0, .int .i64 x1, .int .i64 x2, .int .i64 x3] 51))
    clear hb2 HC HDS
    go_wp2_with fail
    refine HR.out.mono ?_
    rintro e w3 ⟨x, rfl, ⟨hx, _⟩, hb3⟩
    have HX := Lib.hid (hx.mono HB3.out.size (Nat.le_refl _))
    have HB4 := Lib.hid (HB3.out.trans (hb3.mono HB3.out.size))
    clear hx hb3 HR
    go_wp2_with fail
    go_ret
    exact ⟨_, rfl, ⟨HX.out, Nat.le_refl _⟩, HB4.out⟩
  · have HV := Lib.hid (ldsL_no hW)
    have HWB := Lib.hid (wordB_no hW)
    rw [HWB.out] at HIW
    rw [HV.out]
    obtain ⟨a, cap, rfl⟩ := h.slice
    obtain ⟨a', cap', rfl⟩ := h'.slice
    clear h h' hf hW HWB HV
    generalize m.length = n at *
    generalize ws.length = nw at *
    go_enter Try.func22, Try.ntmps22
    go_wp2_with fail
    refine HIW.out.mono ?_
    rintro e w1 ⟨rfl, q, rfl⟩
    have HB1 := Lib.hid (below_drewN (w := w) q)
    clear HIW
    go_wp2_with fail
    go_ret
    exact ⟨_, rfl, ⟨RowI.nil' _ _ _, Nat.le_refl _⟩, HB1.out⟩
end Go.Proofs.Ytnlbmnielemgiaa
namespace Go.Proofs.Ytnlbmnielemgiaa
open Go.RowKit

noncomputable def samB (m : List (List Int)) (a b : List Int) : Bool := wordB m a && wordB m b && eqwB (imgW m a) (imgW m b)
set_option maxHeartbeats 4000000 in
set_option maxRecDepth 100000 in
theorem sams_any (B B' B'' : Nat) (v v' v'' : Value) (m : List (List Int)) (xs ys : List Int) (w : World) (h : MatB B w v m) (h' : RowB B' w v' xs) (h'' : RowB B'' w v'' ys) (hB : B ≤ w.heap.size) (hB' : B' ≤ w.heap.size) (hB'' : B'' ≤ w.heap.size) (hf : RowsFit m) (hx : xs.length ≤ 1048576) (hy : ys.length ≤ 1048576) :
    Calls Try.prog 35 #[v, v', v''] w fun e w' => e = .returned (.bool (samB m xs ys)) ∧ Below w.heap.size w w' := by
  have HI1 := Lib.hid (isws_any B B' v v' m xs w h h' hf (by unfold maxLen; omega))
  have HI2 := Lib.hid (fun (wx : World) (hb : Below w.heap.size w wx) => isws_any B B'' v v'' m ys wx (h.below hb hB) (h''.below hb hB'') hf (by unfold maxLen; omega))
  have HD := Lib.hid (show samB m xs ys = (wordB m xs && wordB m ys && eqwB (imgW m xs) (imgW m ys)) from rfl)
  by_cases h1 : IsW m xs
  · have HW1 := Lib.hid (wordB_yes h1)
    by_cases h2 : IsW m ys
    · have HW2 := Lib.hid (wordB_yes h2)
      have HM1 := Lib.hid (fun (wx : World) (hb : Below w.heap.size w wx) => img8_any B B' v v' m xs wx (h.below hb hB) (h'.below hb hB') (Nat.le_trans hB hb.size) (Nat.le_trans hB' hb.size) hf h1.2.1 h1.1 hx)
      have HM2 := Lib.hid (fun (wx : World) (hb : Below w.heap.size w wx) => img8_any B B'' v v'' m ys wx (h.below hb hB) (h''.below hb hB'') (Nat.le_trans hB hb.size) (Nat.le_trans hB'' hb.size) hf h1.2.1 h2.1 hy)
      have HL1 := Lib.hid (show (imgW m xs).length ≤ maxLen from by rw [imgW_len]; have := h1.2.1.2.2.2; unfold maxLen; omega)
      have HL2 := Lib.hid (show (imgW m ys).length ≤ maxLen from by rw [imgW_len]; have := h1.2.1.2.2.2; unfold maxLen; omega)
      have hD := HD.out
      rw [HW1.out, HW2.out, Bool.true_and, Bool.true_and] at hD
      rw [hD]
      rw [HW1.out] at HI1; rw [HW2.out] at HI2
      clear h h' h'' hf h1 h2 HW1 HW2 HD hD
      generalize imgW m xs = im1 at *
      generalize imgW m ys = im2 at *
      go_enter Try.func35, Try.ntmps35
      go_wp2_with fail
      refine HI1.out.mono ?_
      rintro e w1 ⟨rfl, q, rfl⟩
      have HB1 := Lib.hid (below_drewN (w := w) q)
      have HC2 := Lib.hid (HI2.out _ HB1.out)
      clear HI1 HI2
      go_wp2_with fail
      refine HC2.out.mono ?_
      rintro e w2 ⟨rfl, q2, rfl⟩
      have HB2 := Lib.hid (below_drewN (w := w) (q + q2))
      have HC3 := Lib.hid (HM1.out _ HB2.out)
      clear HC2 HM1
      go_wp2_with fail
      refine HC3.out.mono ?_
      rintro e w3 ⟨x, rfl, hx3, hb3⟩
      have HB3 := Lib.hid (HB2.out.trans (hb3.mono HB2.out.size))
      have HX3 := Lib.hid hx3.1.rowB
      have HC4 := Lib.hid (HM2.out _ HB3.out)
      clear hx3 hb3 HC3 HM2
      go_wp2_with fail
      refine HC4.out.mono ?_
      rintro e w4 ⟨y, rfl, hy4, hb4⟩
      have HB4 := Lib.hid (HB3.out.trans (hb4.mono HB3.out.size))
      have HC5 := Lib.hid (eqws_any w4.heap.size x y im1 im2 w4 ((HX3.out.below hb4 (Nat.le_refl _)).mono hb4.size) hy4.1.rowB HL1.out HL2.out)
      clear hy4 hb4 HC4
      go_wp2_with fail
      refine HC5.out.mono ?_
      rintro e w5 ⟨rfl, q5, rfl⟩
      have HB5 := Lib.hid (HB4.out.trans ((below_drewN (w := w4) q5).mono HB4.out.size))
      go_wp2_with fail
      go_ret
      exact ⟨rfl, HB5.out⟩
    · have HW2 := Lib.hid (wordB_no h2)
      have hD := HD.out
      rw [HW1.out, HW2.out, Bool.and_false, Bool.false_and] at hD
      rw [hD]
      rw [HW1.out] at HI1; rw [HW2.out] at HI2
      clear h h' h'' hf h1 h2 HW1 HW2 HD hD
      go_enter Try.func35, Try.ntmps35
      go_wp2_with fail
      refine HI1.out.mono ?_
      rintro e w1 ⟨rfl, q, rfl⟩
      have HB1 := Lib.hid (below_drewN (w := w) q)
      have HC2 := Lib.hid (HI2.out _ HB1.out)
      clear HI1 HI2
      go_wp2_with fail
      refine HC2.out.mono ?_
      rintro e w2 ⟨rfl, q2, rfl⟩
      have HB2 := Lib.hid (below_drewN (w := w) (q + q2))
      go_wp2_with fail
      go_ret
      exact ⟨rfl, HB2.out⟩
  · have HW1 := Lib.hid (wordB_no h1)
    have hD := HD.out
    rw [HW1.out, Bool.false_and, Bool.false_and] at hD
    rw [hD]
    rw [HW1.out] at HI1
    clear h h' h'' hf h1 HW1 HD hD HI2
    go_enter Try.func35, Try.ntmps35
    go_wp2_with fail
    refine HI1.out.mono ?_
    rintro e w1 ⟨rfl, q, rfl⟩
    have HB1 := Lib.hid (below_drewN (w := w) q)
    go_wp2_with fail
    go_ret
    exact ⟨rfl, HB1.out⟩
def sgn8 (n : Nat) : Int := if n % 2 = 0 then 1 else -1
set_option maxRecDepth 100000 in
theorem sig8_any (B : Nat) (v : Value) (ws : List Int) (w : World) (h : RowB B w v ws) (hw : ws.length ≤ 1048576) :
    Calls Try.prog 38 #[v] w fun e w' => e = .returned (.int .i64 (sgn8 ws.length)) ∧ Below w.heap.size w w' := by
  obtain ⟨a', cap', rfl⟩ := h.slice
  clear h
  generalize ws.length = n at *
  rcases Nat.mod_two_eq_zero_or_one n with h0 | h0
  · have e : sgn8 n = 1 := if_pos h0
    rw [e]
    have hm : (n : Int).tmod 2 = 0 := by rw [Int.tmod_eq_emod_of_nonneg (by omega)]; omega
    have hm2 : (n : Int) % 2 = 0 := by omega
    have hz : ((n : Int).tmod 2 == 0) = true := by rw [hm]; rfl
    go_enter Try.func38, Try.ntmps38
    go_wp2_with fail
    go_ret
    exact ⟨rfl, Below.refl _ _⟩
  · have e : sgn8 n = -1 := if_neg (by omega)
    rw [e]
    have hm : (n : Int).tmod 2 = 1 := by rw [Int.tmod_eq_emod_of_nonneg (by omega)]; omega
    have hm2 : (n : Int) % 2 = 1 := by omega
    have hz : ((n : Int).tmod 2 == 0) = false := by rw [hm]; rfl
    go_enter Try.func38, Try.ntmps38
    go_wp2_with fail
    go_ret
    exact ⟨rfl, Below.refl _ _⟩
end Go.Proofs.Ytnlbmnielemgiaa
