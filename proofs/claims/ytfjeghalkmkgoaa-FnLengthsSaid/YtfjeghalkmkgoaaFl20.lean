/-
  Lengths: what the program's NormalForm, LengthOf, IsReduced, LeftDescents and RightDescents return.
  Lengths: what the model's AreSame and SignOf return.
  Lengths: what the program's AreSame and SignOf return.
-/
import Derived.Test.YtfjeghalkmkgoaaFl17
import Derived.Test.YtfjeghalkmkgoaaFl19
import Derived.DeepKeys
namespace Go.Proofs.Ytfjeghalkmkgoaa
open Go.RowKit

set_option maxHeartbeats 2000000 in
set_option maxRecDepth 100000 in
theorem iml_any (B : Nat) (v : Value) (m : List (List Int)) (l : List Int) (L : Nat) (w : World) (h : MatB B w v m) (hB : B ≤ w.heap.size) (hI : IsC m) (hr : Ret m l L) :
    Calls Try.prog 63 #[v, imV l] w fun e w' => e = .returned (.int .i64 (frmI m 31 l).length) ∧ Below w.heap.size w w' := by
  obtain ⟨x0, x1, x2, x3, hv, hp⟩ := imV_parts l
  have hb0 : Below w.heap.size w (w.alloc (.cells #[.int .i64 x0, .int .i64 x1, .int .i64 x2, .int .i64 x3] 50)) := (Below.refl _ _).alloc (Nat.le_refl _) _
  have HB0 := Lib.hid hb0
  have HRT := Lib.hid (retn_any B w.heap.size v m l L (w.alloc (.cells #[.int .i64 x0, .int .i64 x1, .int .i64 x2, .int .i64 x3] 50)) (h.below hb0 hB) (Im4.new hp) hB hI hr)
  rw [hv]
  obtain ⟨a, cap, rfl⟩ := h.slice
  clear h hI hr hv hp hb0
  generalize frmI m 31 l = R at *
  generalize m.length = n at *
  go_enter Try.func63, Try.ntmps63
  go_wp2_with fail
  refine HRT.out.mono ?_
  rintro e w2 ⟨x, rfl, hx, hg⟩
  obtain ⟨xa, xcap, rfl⟩ := hx.slice
  have HB2 := Lib.hid (HB0.out.grown hg HB0.out.size (fun j hj => by have := Option.some.inj hj; omega))
  clear hx hg HRT
  go_wp2_with fail
  go_ret
  exact ⟨rfl, HB2.out⟩
set_option maxHeartbeats 2000000 in
set_option maxRecDepth 100000 in
theorem nrmi_any (B B' : Nat) (v v' : Value) (m : List (List Int)) (ws : List Int) (w : World) (h : MatB B w v m) (h' : RowB B' w v' ws) (hB : B ≤ w.heap.size) (hB' : B' ≤ w.heap.size) (hf : RowsFit m) (hw : ws.length ≤ 1048576) :
    Calls Try.prog 22 #[v, v'] w (MakesS2 w (nrmL m ws) (.bool (wordB m ws))) := by
  have HIW := Lib.hid (iswi_any B B' v v' m ws w h h' hf (by unfold maxLen; omega))
  by_cases hW : IsW m ws
  · have HWB := Lib.hid (wordB_yes hW)
    have HV := Lib.hid (nrmL_yes hW)
    have h15 := hW.2.2
    obtain ⟨L, hr⟩ := ret_word hW.2.1 hW.1 (by omega)
    have HIM := Lib.hid (fun (wx : World) (hb : Below w.heap.size w wx) => iorho_any B B' v v' m ws wx (h.below hb hB) (h'.below hb hB') (Nat.le_trans hB hb.size) (Nat.le_trans hB' hb.size) hf hW.2.1 hW.1 hw)
    obtain ⟨x0, x1, x2, x3, hv, hp⟩ := imV_parts (imgW m ws)
    rw [hv] at HIM
    have HRT := Lib.hid (fun (wx : World) (hb : Below w.heap.size w wx) => retn_any B wx.heap.size v m (imgW m ws) L (wx.alloc (.cells #[.int .i64 x0, .int .i64 x1, .int .i64 x2, .int .i64 x3] 50)) (h.below (hb.alloc hb.size _) hB) (Im4.new hp) (Nat.le_trans hB hb.size) hW.2.1 hr)
    rw [HWB.out] at HIW ⊢
    rw [HV.out]
    obtain ⟨a, cap, rfl⟩ := h.slice
    obtain ⟨a', cap', rfl⟩ := h'.slice
    clear h h' hf hW HWB HV hr hv hp h15
    generalize frmI m 31 (imgW m ws) = R at *
    generalize m.length = n at *
    generalize ws.length = nw at *
    go_enter Try.func22, Try.ntmps22
    go_wp2_with fail
    refine HIW.out.mono ?_
    rintro e w1 ⟨rfl, q, rfl⟩
    have HB1 := Lib.hid (below_drewN (w := w) q)
    have HC := Lib.hid (HIM.out _ HB1.out)
    clear HIW HIM
    go_wp2_with fail
    refine HC.out.mono ?_
    rintro e w2 ⟨rfl, hb2⟩
    have HB2 := Lib.hid (HB1.out.trans (hb2.mono HB1.out.size))
    have HR := Lib.hid (HRT.out w2 HB2.out)
    have HB3 := Lib.hid (HB2.out.alloc HB2.out.size (.cells #[.int .i64 x0, .int .i64 x1, .int .i64 x2, .int .i64 x3] 50))
    clear hb2 HC HRT
    go_wp2_with fail
    refine HR.out.mono ?_
    rintro e w3 ⟨x, rfl, hx, hg⟩
    have hsz := HB2.out.size
    have HX := Lib.hid (hx.mono HB3.out.size (Nat.le_refl _))
    have HB4 := Lib.hid (HB3.out.grown hg HB3.out.size (fun j hj => by have := Option.some.inj hj; omega))
    clear hx hg hsz HR
    go_wp2_with fail
    go_ret2
    exact ⟨_, rfl, ⟨HX.out, Nat.le_refl _⟩, HB4.out⟩
  · have HV := Lib.hid (nrmL_no hW)
    have HWB := Lib.hid (wordB_no hW)
    rw [HWB.out] at HIW ⊢
    rw [HV.out]
    obtain ⟨a, cap, rfl⟩ := h.slice
    obtain ⟨a', cap', rfl⟩ := h'.slice
    clear h h' hf hW HWB HV
    generalize m.length = n at *
    generalize ws.length = nw at *
    go_enter Try.func22, Try.ntmps22
    go_wp2_with fail
    refine HIW.out.mono ?_
    rintro e w1 ⟨rfl, q, rfl⟩
    have HB1 := Lib.hid (below_drewN (w := w) q)
    clear HIW
    go_wp2_with fail
    go_ret2
    exact ⟨_, rfl, ⟨RowI.nil' _ _ _, Nat.le_refl _⟩, HB1.out⟩
set_option maxHeartbeats 2000000 in
set_option maxRecDepth 100000 in
theorem leni_any (B B' : Nat) (v v' : Value) (m : List (List Int)) (ws : List Int) (w : World) (h : MatB B w v m) (h' : RowB B' w v' ws) (hB : B ≤ w.heap.size) (hB' : B' ≤ w.heap.size) (hf : RowsFit m) (hw : ws.length ≤ 1048576) :
    Calls Try.prog 18 #[v, v'] w fun e w' => e = .returned (.int .i64 (lenI m ws)) ∧ Below w.heap.size w w' := by
  have HN := Lib.hid (nrmi_any B B' v v' m ws w h h' hB hB' hf hw)
  have HV := Lib.hid (show lenI m ws = if wordB m ws = true then ((nrmL m ws).length : Int) else -1 from rfl)
  clear h h' hf
  generalize lenI m ws = R at *
  generalize nrmL m ws = nl at *
  generalize wordB m ws = wb at *
  cases wb with
  | true =>
    have hv := HV.out
    rw [if_pos rfl] at hv
    subst hv
    go_enter Try.func18, Try.ntmps18
    go_wp2_with fail
    refine HN.out.mono ?_
    rintro e w1 ⟨x, rfl, hx, hb1⟩
    have HB1 := Lib.hid hb1
    obtain ⟨xa, xcap, rfl⟩ := hx.1.slice
    clear hx hb1
    go_wp2_with fail
    go_ret
    exact ⟨rfl, HB1.out⟩
  | false =>
    have hv := HV.out
    rw [if_neg (by simp)] at hv
    subst hv
    go_enter Try.func18, Try.ntmps18
    go_wp2_with fail
    refine HN.out.mono ?_
    rintro e w1 ⟨x, rfl, hx, hb1⟩
    have HB1 := Lib.hid hb1
    obtain ⟨xa, xcap, rfl⟩ := hx.1.slice
    clear hx hb1
    go_wp2_with fail
    go_ret
    exact ⟨rfl, HB1.out⟩
set_option maxHeartbeats 2000000 in
set_option maxRecDepth 100000 in
theorem isrdi_any (B B' : Nat) (v v' : Value) (m : List (List Int)) (ws : List Int) (w : World) (h : MatB B w v m) (h' : RowB B' w v' ws) (hB : B ≤ w.heap.size) (hB' : B' ≤ w.heap.size) (hf : RowsFit m) (hw : ws.length ≤ 1048576) :
    Calls Try.prog 27 #[v, v'] w fun e w' => e = .returned (.bool (lenI m ws == (ws.length : Int))) ∧ Below w.heap.size w w' := by
  have HN := Lib.hid (leni_any B B' v v' m ws w h h' hB hB' hf hw)
  obtain ⟨a', cap', rfl⟩ := h'.slice
  clear h h' hf
  generalize lenI m ws = R at *
  generalize ws.length = n at *
  go_enter Try.func27, Try.ntmps27
  go_wp2_with fail
  refine HN.out.mono ?_
  rintro e w1 ⟨rfl, hb1⟩
  have HB1 := Lib.hid hb1
  clear hb1
  go_wp2_with fail
  go_ret
  exact ⟨rfl, HB1.out⟩
set_option maxHeartbeats 2000000 in
set_option maxRecDepth 100000 in
theorem ldsi_any (B B' : Nat) (v v' : Value) (m : List (List Int)) (ws : List Int) (w : World) (h : MatB B w v m) (h' : RowB B' w v' ws) (hB : B ≤ w.heap.size) (hB' : B' ≤ w.heap.size) (hf : RowsFit m) (hw : ws.length ≤ 1048576) :
    Calls Try.prog 29 #[v, v'] w (MakesS w (ldsL m ws)) := by
  have HIW := Lib.hid (iswi_any B B' v v' m ws w h h' hf (by unfold maxLen; omega))
  by_cases hW : IsW m ws
  · have HWB := Lib.hid (wordB_yes hW)
    have HV := Lib.hid (ldsL_yes hW)
    have hn4 := hW.2.1.2.2.2
    have HIM := Lib.hid (fun (wx : World) (hb : Below w.heap.size w wx) => iorho_any B B' v v' m ws wx (h.below hb hB) (h'.below hb hB') (Nat.le_trans hB hb.size) (Nat.le_trans hB' hb.size) hf hW.2.1 hW.1 hw)
    obtain ⟨x0, x1, x2, x3, hv, hp⟩ := imV_parts (imgW m ws)
    rw [hv] at HIM
    have HDS := Lib.hid (fun (wx : World) => show Calls Try.prog 57 #[.pointer (some ⟨wx.heap.size, 0, none⟩)] (wx.alloc (.cells #[.int .i64 x0, .int .i64 x1, .int .i64 x2, .int .i64 x3] 50)) (MakesS (wx.alloc (.cells #[.int .i64 x0, .int .i64 x1, .int .i64 x2, .int .i64 x3] 50)) (dnsK (imgW m ws) m.length)) from by
      have := desc_any wx.heap.size (imgW m ws) (wx.alloc (.cells #[.int .i64 x0, .int .i64 x1, .int .i64 x2, .int .i64 x3] 50)) (Im4.new hp) (by rw [imgW_len]; exact hn4)
      rw [imgW_len] at this; exact this)
    rw [HWB.out] at HIW
    rw [HV.out]
    obtain ⟨a, cap, rfl⟩ := h.slice
    obtain ⟨a', cap', rfl⟩ := h'.slice
    clear h h' hf hW HWB HV hv hp
    generalize dnsK (imgW m ws) m.length = R at *
    generalize m.length = n at *
    generalize ws.length = nw at *
    go_enter Try.func29, Try.ntmps29
    go_wp2_with fail
    refine HIW.out.mono ?_
    rintro e w1 ⟨rfl, q, rfl⟩
    have HB1 := Lib.hid (below_drewN (w := w) q)
    have HC := Lib.hid (HIM.out _ HB1.out)
    clear HIW HIM
    go_wp2_with fail
    refine HC.out.mono ?_
    rintro e w2 ⟨rfl, hb2⟩
    have HB2 := Lib.hid (HB1.out.trans (hb2.mono HB1.out.size))
    have HR := Lib.hid (HDS.out w2)
    have HB3 := Lib.hid (HB2.out.alloc HB2.out.size (.cells #[.int .i64 x0, .int .i64 x1, .int .i64 x2, .int .i64 x3] 50))
    clear hb2 HC HDS
    go_wp2_with fail
    refine HR.out.mono ?_
    rintro e w3 ⟨x, rfl, ⟨hx, _⟩, hb3⟩
    have HX := Lib.hid (hx.mono HB3.out.size (Nat.le_refl _))
    have HB4 := Lib.hid (HB3.out.trans (hb3.mono HB3.out.size))
    clear hx hb3 HR
    go_wp2_with fail
    go_ret
    exact ⟨_, rfl, ⟨HX.out, Nat.le_refl _⟩, HB4.out⟩
  · have HV := Lib.hid (ldsL_no hW)
    have HWB := Lib.hid (wordB_no hW)
    rw [HWB.out] at HIW
    rw [HV.out]
    obtain ⟨a, cap, rfl⟩ := h.slice
    obtain ⟨a', cap', rfl⟩ := h'.slice
    clear h h' hf hW HWB HV
    generalize m.length = n at *
    generalize ws.length = nw at *
    go_enter Try.func29, Try.ntmps29
    go_wp2_with fail
    refine HIW.out.mono ?_
    rintro e w1 ⟨rfl, q, rfl⟩
    have HB1 := Lib.hid (below_drewN (w := w) q)
    clear HIW
    go_wp2_with fail
    go_ret
    exact ⟨_, rfl, ⟨RowI.nil' _ _ _, Nat.le_refl _⟩, HB1.out⟩
end Go.Proofs.Ytfjeghalkmkgoaa
namespace Go.Proofs.Ytfjeghalkmkgoaa
open Go.RowKit

noncomputable def samB (m : List (List Int)) (a b : List Int) : Bool := wordB m a && wordB m b && eqwB (imgW m a) (imgW m b)
set_option maxHeartbeats 4000000 in
set_option maxRecDepth 100000 in
theorem sams_any (B B' B'' : Nat) (v v' v'' : Value) (m : List (List Int)) (xs ys : List Int) (w : World) (h : MatB B w v m) (h' : RowB B' w v' xs) (h'' : RowB B'' w v'' ys) (hB : B ≤ w.heap.size) (hB' : B' ≤ w.heap.size) (hB'' : B'' ≤ w.heap.size) (hf : RowsFit m) (hx : xs.length ≤ 1048576) (hy : ys.length ≤ 1048576) :
    Calls Try.prog 32 #[v, v', v''] w fun e w' => e = .returned (.bool (samB m xs ys)) ∧ Below w.heap.size w w' := by
  have HI1 := Lib.hid (isws_any B B' v v' m xs w h h' hf (by unfold maxLen; omega))
  have HI2 := Lib.hid (fun (wx : World) (hb : Below w.heap.size w wx) => isws_any B B'' v v'' m ys wx (h.below hb hB) (h''.below hb hB'') hf (by unfold maxLen; omega))
  have HD := Lib.hid (show samB m xs ys = (wordB m xs && wordB m ys && eqwB (imgW m xs) (imgW m ys)) from rfl)
  by_cases h1 : IsW m xs
  · have HW1 := Lib.hid (wordB_yes h1)
    by_cases h2 : IsW m ys
    · have HW2 := Lib.hid (wordB_yes h2)
      have HM1 := Lib.hid (fun (wx : World) (hb : Below w.heap.size w wx) => img8_any B B' v v' m xs wx (h.below hb hB) (h'.below hb hB') (Nat.le_trans hB hb.size) (Nat.le_trans hB' hb.size) hf h1.2.1 h1.1 hx)
      have HM2 := Lib.hid (fun (wx : World) (hb : Below w.heap.size w wx) => img8_any B B'' v v'' m ys wx (h.below hb hB) (h''.below hb hB'') (Nat.le_trans hB hb.size) (Nat.le_trans hB'' hb.size) hf h1.2.1 h2.1 hy)
      have HL1 := Lib.hid (show (imgW m xs).length ≤ maxLen from by rw [imgW_len]; have := h1.2.1.2.2.2; unfold maxLen; omega)
      have HL2 := Lib.hid (show (imgW m ys).length ≤ maxLen from by rw [imgW_len]; have := h1.2.1.2.2.2; unfold maxLen; omega)
      have hD := HD.out
      rw [HW1.out, HW2.out, Bool.true_and, Bool.true_and] at hD
      rw [hD]
      rw [HW1.out] at HI1; rw [HW2.out] at HI2
      clear h h' h'' hf h1 h2 HW1 HW2 HD hD
      generalize imgW m xs = im1 at *
      generalize imgW m ys = im2 at *
      go_enter Try.func32, Try.ntmps32
      go_wp2_with fail
      refine HI1.out.mono ?_
      rintro e w1 ⟨rfl, q, rfl⟩
      have HB1 := Lib.hid (below_drewN (w := w) q)
      have HC2 := Lib.hid (HI2.out _ HB1.out)
      clear HI1 HI2
      go_wp2_with fail
      refine HC2.out.mono ?_
      rintro e w2 ⟨rfl, q2, rfl⟩
      have HB2 := Lib.hid (below_drewN (w := w) (q + q2))
      have HC3 := Lib.hid (HM1.out _ HB2.out)
      clear HC2 HM1
      go_wp2_with fail
      refine HC3.out.mono ?_
      rintro e w3 ⟨x, rfl, hx3, hb3⟩
      have HB3 := Lib.hid (HB2.out.trans (hb3.mono HB2.out.size))
      have HX3 := Lib.hid hx3.1.rowB
      have HC4 := Lib.hid (HM2.out _ HB3.out)
      clear hx3 hb3 HC3 HM2
      go_wp2_with fail
      refine HC4.out.mono ?_
      rintro e w4 ⟨y, rfl, hy4, hb4⟩
      have HB4 := Lib.hid (HB3.out.trans (hb4.mono HB3.out.size))
      have HC5 := Lib.hid (eqws_any w4.heap.size x y im1 im2 w4 ((HX3.out.below hb4 (Nat.le_refl _)).mono hb4.size) hy4.1.rowB HL1.out HL2.out)
      clear hy4 hb4 HC4
      go_wp2_with fail
      refine HC5.out.mono ?_
      rintro e w5 ⟨rfl, q5, rfl⟩
      have HB5 := Lib.hid (HB4.out.trans ((below_drewN (w := w4) q5).mono HB4.out.size))
      go_wp2_with fail
      go_ret
      exact ⟨rfl, HB5.out⟩
    · have HW2 := Lib.hid (wordB_no h2)
      have hD := HD.out
      rw [HW1.out, HW2.out, Bool.and_false, Bool.false_and] at hD
      rw [hD]
      rw [HW1.out] at HI1; rw [HW2.out] at HI2
      clear h h' h'' hf h1 h2 HW1 HW2 HD hD
      go_enter Try.func32, Try.ntmps32
      go_wp2_with fail
      refine HI1.out.mono ?_
      rintro e w1 ⟨rfl, q, rfl⟩
      have HB1 := Lib.hid (below_drewN (w := w) q)
      have HC2 := Lib.hid (HI2.out _ HB1.out)
      clear HI1 HI2
      go_wp2_with fail
      refine HC2.out.mono ?_
      rintro e w2 ⟨rfl, q2, rfl⟩
      have HB2 := Lib.hid (below_drewN (w := w) (q + q2))
      go_wp2_with fail
      go_ret
      exact ⟨rfl, HB2.out⟩
  · have HW1 := Lib.hid (wordB_no h1)
    have hD := HD.out
    rw [HW1.out, Bool.false_and, Bool.false_and] at hD
    rw [hD]
    rw [HW1.out] at HI1
    clear h h' h'' hf h1 HW1 HD hD HI2
    go_enter Try.func32, Try.ntmps32
    go_wp2_with fail
    refine HI1.out.mono ?_
    rintro e w1 ⟨rfl, q, rfl⟩
    have HB1 := Lib.hid (below_drewN (w := w) q)
    go_wp2_with fail
    go_ret
    exact ⟨rfl, HB1.out⟩
def sgn8 (n : Nat) : Int := if n % 2 = 0 then 1 else -1
set_option maxRecDepth 100000 in
theorem sig8_any (B : Nat) (v : Value) (ws : List Int) (w : World) (h : RowB B w v ws) (hw : ws.length ≤ 1048576) :
    Calls Try.prog 34 #[v] w fun e w' => e = .returned (.int .i64 (sgn8 ws.length)) ∧ Below w.heap.size w w' := by
  obtain ⟨a', cap', rfl⟩ := h.slice
  clear h
  generalize ws.length = n at *
  rcases Nat.mod_two_eq_zero_or_one n with h0 | h0
  · have e : sgn8 n = 1 := if_pos h0
    rw [e]
    have hm : (n : Int).tmod 2 = 0 := by rw [Int.tmod_eq_emod_of_nonneg (by omega)]; omega
    have hm2 : (n : Int) % 2 = 0 := by omega
    have hz : ((n : Int).tmod 2 == 0) = true := by rw [hm]; rfl
    go_enter Try.func34, Try.ntmps34
    go_wp2_with fail
    go_ret
    exact ⟨rfl, Below.refl _ _⟩
  · have e : sgn8 n = -1 := if_neg (by omega)
    rw [e]
    have hm : (n : Int).tmod 2 = 1 := by rw [Int.tmod_eq_emod_of_nonneg (by omega)]; omega
    have hm2 : (n : Int) % 2 = 1 := by omega
    have hz : ((n : Int).tmod 2 == 0) = false := by rw [hm]; rfl
    go_enter Try.func34, Try.ntmps34
    go_wp2_with fail
    go_ret
    exact ⟨rfl, Below.refl _ _⟩
end Go.Proofs.Ytfjeghalkmkgoaa
namespace Go.Proofs.Ytfjeghalkmkgoaa
open Go.RowKit

set_option maxRecDepth 100000 in
theorem eq_im (x0 x1 x2 x3 y0 y1 y2 y3 : Int) (w : World) : (binOp .eql 50 (.agg #[.int .i64 x0, .int .i64 x1, .int .i64 x2, .int .i64 x3]) (.agg #[.int .i64 y0, .int .i64 y1, .int .i64 y2, .int .i64 y3])).run Try.prog w = .ok (.bool (x0 == y0 && (x1 == y1 && (x2 == y2 && x3 == y3)))) w := by
  obtain ⟨i0, hi, _, _, _⟩ := info_parts Try.infoInt
  have hc : Try.prog.cellsOf 3 = 1 := by kernel_rfl
  have h1 : ∀ a b, (Op.equalIn 9999 3 (.int .i64 a) (.int .i64 b)).run Try.prog w = .ok (a == b) w := fun a b => run_equalIn_int w 9998 3 .i64 .i64 a b Try.underlying3
  have p0 : ∀ a b c d, (part 3 #[.int .i64 a, .int .i64 b, .int .i64 c, .int .i64 d] (0 * 1)).run Try.prog w = .ok (.int .i64 a) w := fun _ _ _ _ => by rfl
  have p1 : ∀ a b c d, (part 3 #[.int .i64 a, .int .i64 b, .int .i64 c, .int .i64 d] (1 * 1)).run Try.prog w = .ok (.int .i64 b) w := fun _ _ _ _ => by rfl
  have p2 : ∀ a b c d, (part 3 #[.int .i64 a, .int .i64 b, .int .i64 c, .int .i64 d] (2 * 1)).run Try.prog w = .ok (.int .i64 c) w := fun _ _ _ _ => by rfl
  have p3 : ∀ a b c d, (part 3 #[.int .i64 a, .int .i64 b, .int .i64 c, .int .i64 d] (3 * 1)).run Try.prog w = .ok (.int .i64 d) w := fun _ _ _ _ => by rfl
  rw [run_eql_struct w, show (10000 : Nat) = 9999 + 1 from rfl, run_equalIn_array w 9999 _ _ Try.underlying50 hi, hc, show List.range 4 = [0, 1, 2, 3] from rfl]
  simp only [Op.eqItems, Sem.run_bind, p0, p1, p2, p3, h1, Result.andThen_ok, Sem.run_ite]
  cases x0 == y0 <;> cases x1 == y1 <;> cases x2 == y2 <;> cases x3 == y3 <;> rfl
theorem eq_pad {a b : List Int} (hl : a.length = b.length) (h4 : a.length ≤ 4) : (a.getD 0 0 == b.getD 0 0 && (a.getD 1 0 == b.getD 1 0 && (a.getD 2 0 == b.getD 2 0 && a.getD 3 0 == b.getD 3 0))) = eqwB a b := by
  rw [Bool.eq_iff_iff]
  unfold eqwB
  rw [decide_eq_true_iff, cmpW_zero]
  simp only [Bool.and_eq_true, beq_iff_eq]
  constructor
  · rintro ⟨h0, h1, h2, h3⟩
    refine pad4_inj h4 hl ?_
    unfold pad4; rw [h0, h1, h2, h3]
  · rintro rfl; exact ⟨rfl, rfl, rfl, rfl⟩
set_option maxHeartbeats 4000000 in
set_option maxRecDepth 100000 in
theorem sami_any (B B' B'' : Nat) (v v' v'' : Value) (m : List (List Int)) (xs ys : List Int) (w : World) (h : MatB B w v m) (h' : RowB B' w v' xs) (h'' : RowB B'' w v'' ys) (hB : B ≤ w.heap.size) (hB' : B' ≤ w.heap.size) (hB'' : B'' ≤ w.heap.size) (hf : RowsFit m) (hx : xs.length ≤ 1048576) (hy : ys.length ≤ 1048576) :
    Calls Try.prog 33 #[v, v', v''] w fun e w' => e = .returned (.bool (samB m xs ys)) ∧ Below w.heap.size w w' := by
  have HI1 := Lib.hid (iswi_any B B' v v' m xs w h h' hf (by unfold maxLen; omega))
  have HI2 := Lib.hid (fun (wx : World) (hb : Below w.heap.size w wx) => iswi_any B B'' v v'' m ys wx (h.below hb hB) (h''.below hb hB'') hf (by unfold maxLen; omega))
  have HD := Lib.hid (show samB m xs ys = (wordB m xs && wordB m ys && eqwB (imgW m xs) (imgW m ys)) from rfl)
  by_cases h1 : IsW m xs
  · have HW1 := Lib.hid (wordB_yes h1)
    by_cases h2 : IsW m ys
    · have HW2 := Lib.hid (wordB_yes h2)
      have HM1 := Lib.hid (fun (wx : World) (hb : Below w.heap.size w wx) => iorho_any B B' v v' m xs wx (h.below hb hB) (h'.below hb hB') (Nat.le_trans hB hb.size) (Nat.le_trans hB' hb.size) hf h1.2.1 h1.1 hx)
      have HM2 := Lib.hid (fun (wx : World) (hb : Below w.heap.size w wx) => iorho_any B B'' v v'' m ys wx (h.below hb hB) (h''.below hb hB'') (Nat.le_trans hB hb.size) (Nat.le_trans hB'' hb.size) hf h1.2.1 h2.1 hy)
      have HEQ := Lib.hid (eq_pad (a := imgW m xs) (b := imgW m ys) (by rw [imgW_len, imgW_len]) (by rw [imgW_len]; exact h1.2.1.2.2.2))
      have hD := HD.out
      rw [HW1.out, HW2.out, Bool.true_and, Bool.true_and, ← HEQ.out] at hD
      rw [hD]
      rw [HW1.out] at HI1; rw [HW2.out] at HI2
      have e1 : imV (imgW m xs) = .agg #[.int .i64 ((imgW m xs).getD 0 0), .int .i64 ((imgW m xs).getD 1 0), .int .i64 ((imgW m xs).getD 2 0), .int .i64 ((imgW m xs).getD 3 0)] := rfl
      have e2 : imV (imgW m ys) = .agg #[.int .i64 ((imgW m ys).getD 0 0), .int .i64 ((imgW m ys).getD 1 0), .int .i64 ((imgW m ys).getD 2 0), .int .i64 ((imgW m ys).getD 3 0)] := rfl
      rw [e1] at HM1; rw [e2] at HM2
      clear e1 e2 HEQ
      clear h h' h'' hf h1 h2 HW1 HW2 HD hD
      generalize (imgW m xs).getD 0 0 = x0 at *
      generalize (imgW m xs).getD 1 0 = x1 at *
      generalize (imgW m xs).getD 2 0 = x2 at *
      generalize (imgW m xs).getD 3 0 = x3 at *
      generalize (imgW m ys).getD 0 0 = y0 at *
      generalize (imgW m ys).getD 1 0 = y1 at *
      generalize (imgW m ys).getD 2 0 = y2 at *
      generalize (imgW m ys).getD 3 0 = y3 at *
      have heq := fun wx => eq_im x0 x1 x2 x3 y0 y1 y2 y3 wx
      generalize (x0 == y0 && (x1 == y1 && (x2 == y2 && x3 == y3))) = r at *
      go_enter Try.func33, Try.ntmps33
      go_wp2_with fail
      refine HI1.out.mono ?_
      rintro e w1 ⟨rfl, q, rfl⟩
      have HB1 := Lib.hid (below_drewN (w := w) q)
      have HC2 := Lib.hid (HI2.out _ HB1.out)
      clear HI1 HI2
      go_wp2_with fail
      refine HC2.out.mono ?_
      rintro e w2 ⟨rfl, q2, rfl⟩
      have HB2 := Lib.hid (below_drewN (w := w) (q + q2))
      have HC3 := Lib.hid (HM1.out _ HB2.out)
      clear HC2 HM1
      go_wp2_with fail
      refine HC3.out.mono ?_
      rintro e w3 ⟨rfl, hb3⟩
      have HB3 := Lib.hid (HB2.out.trans (hb3.mono HB2.out.size))
      have HC4 := Lib.hid (HM2.out _ HB3.out)
      clear hb3 HC3 HM2
      go_wp2_with fail
      refine HC4.out.mono ?_
      rintro e w4 ⟨rfl, hb4⟩
      have HB4 := Lib.hid (HB3.out.trans (hb4.mono HB3.out.size))
      clear hb4 HC4
      go_wp2_with fail
      go_ret
      exact ⟨rfl, HB4.out⟩
    · have HW2 := Lib.hid (wordB_no h2)
      have hD := HD.out
      rw [HW1.out, HW2.out, Bool.and_false, Bool.false_and] at hD
      rw [hD]
      rw [HW1.out] at HI1; rw [HW2.out] at HI2
      clear h h' h'' hf h1 h2 HW1 HW2 HD hD
      go_enter Try.func33, Try.ntmps33
      go_wp2_with fail
      refine HI1.out.mono ?_
      rintro e w1 ⟨rfl, q, rfl⟩
      have HB1 := Lib.hid (below_drewN (w := w) q)
      have HC2 := Lib.hid (HI2.out _ HB1.out)
      clear HI1 HI2
      go_wp2_with fail
      refine HC2.out.mono ?_
      rintro e w2 ⟨rfl, q2, rfl⟩
      have HB2 := Lib.hid (below_drewN (w := w) (q + q2))
      go_wp2_with fail
      go_ret
      exact ⟨rfl, HB2.out⟩
  · have HW1 := Lib.hid (wordB_no h1)
    have hD := HD.out
    rw [HW1.out, Bool.false_and, Bool.false_and] at hD
    rw [hD]
    rw [HW1.out] at HI1
    clear h h' h'' hf h1 HW1 HD hD HI2
    go_enter Try.func33, Try.ntmps33
    go_wp2_with fail
    refine HI1.out.mono ?_
    rintro e w1 ⟨rfl, q, rfl⟩
    have HB1 := Lib.hid (below_drewN (w := w) q)
    go_wp2_with fail
    go_ret
    exact ⟨rfl, HB1.out⟩
set_option maxRecDepth 100000 in
theorem sig8i_any (B : Nat) (v : Value) (ws : List Int) (w : World) (h : RowB B w v ws) (hw : ws.length ≤ 1048576) :
    Calls Try.prog 35 #[v] w fun e w' => e = .returned (.int .i64 (sgn8 ws.length)) ∧ Below w.heap.size w w' := by
  obtain ⟨a', cap', rfl⟩ := h.slice
  clear h
  generalize ws.length = n at *
  rcases Nat.mod_two_eq_zero_or_one n with h0 | h0
  · have e : sgn8 n = 1 := if_pos h0
    rw [e]
    have hm : (n : Int).tmod 2 = 0 := by rw [Int.tmod_eq_emod_of_nonneg (by omega)]; omega
    have hm2 : (n : Int) % 2 = 0 := by omega
    have hz : ((n : Int).tmod 2 == 0) = true := by rw [hm]; rfl
    go_enter Try.func35, Try.ntmps35
    go_wp2_with fail
    go_ret
    exact ⟨rfl, Below.refl _ _⟩
  · have e : sgn8 n = -1 := if_neg (by omega)
    rw [e]
    have hm : (n : Int).tmod 2 = 1 := by rw [Int.tmod_eq_emod_of_nonneg (by omega)]; omega
    have hm2 : (n : Int) % 2 = 1 := by omega
    have hz : ((n : Int).tmod 2 == 0) = false := by rw [hm]; rfl
    go_enter Try.func35, Try.ntmps35
    go_wp2_with fail
    go_ret
    exact ⟨rfl, Below.refl _ _⟩
end Go.Proofs.Ytfjeghalkmkgoaa
