/-
  Lengths: what the program's AreSame and SignOf return.
  Elements: what one operation on two words returns in the program (printed by mk_eli.py).
  Elements: what the program's products, inverses and conjugates return (printed by mk_eli.py).
  Elements: what the program's DoCommute and IsInvolution return (printed by mk_eli.py).
  Exchange and deletion: what the program's exchangedIndex, ExchangeIndex and DeletionPair return.
  Orders of points: what they are, and the calls that ask whether a list is one.
-/
import Derived.DeepKeys
import Derived.Test.YtbmghddmilgngaaLc33
import Derived.Test.YtbmghddmilgngaaLc18
import Derived.Test.YtbmghddmilgngaaLc23
import Derived.Test.YtbmghddmilgngaaLc28
import Derived.Test.YtbmghddmilgngaaLc25
import Derived.Test.YtbmghddmilgngaaLc26
import Derived.Deep.RegionHeld3
import Derived.Test.YtbmghddmilgngaaLc27
import Derived.Test.YtbmghddmilgngaaLc20
namespace Go.Proofs.Ytbmghddmilgngaa
open Go.RowKit

set_option maxRecDepth 100000 in
theorem eq_im (x0 x1 x2 x3 y0 y1 y2 y3 : Int) (w : World) : (binOp .eql 58 (.agg #[.int .i64 x0, .int .i64 x1, .int .i64 x2, .int .i64 x3]) (.agg #[.int .i64 y0, .int .i64 y1, .int .i64 y2, .int .i64 y3])).run Try.prog w = .ok (.bool (x0 == y0 && (x1 == y1 && (x2 == y2 && x3 == y3)))) w := by
  obtain ⟨i0, hi, _, _, _⟩ := info_parts Try.infoInt
  have hc : Try.prog.cellsOf 3 = 1 := by kernel_rfl
  have h1 : ∀ a b, (Op.equalIn 9999 3 (.int .i64 a) (.int .i64 b)).run Try.prog w = .ok (a == b) w := fun a b => run_equalIn_int w 9998 3 .i64 .i64 a b Try.underlying3
  have p0 : ∀ a b c d, (part 3 #[.int .i64 a, .int .i64 b, .int .i64 c, .int .i64 d] (0 * 1)).run Try.prog w = .ok (.int .i64 a) w := fun _ _ _ _ => by rfl
  have p1 : ∀ a b c d, (part 3 #[.int .i64 a, .int .i64 b, .int .i64 c, .int .i64 d] (1 * 1)).run Try.prog w = .ok (.int .i64 b) w := fun _ _ _ _ => by rfl
  have p2 : ∀ a b c d, (part 3 #[.int .i64 a, .int .i64 b, .int .i64 c, .int .i64 d] (2 * 1)).run Try.prog w = .ok (.int .i64 c) w := fun _ _ _ _ => by rfl
  have p3 : ∀ a b c d, (part 3 #[.int .i64 a, .int .i64 b, .int .i64 c, .int .i64 d] (3 * 1)).run Try.prog w = .ok (.int .i64 d) w := fun _ _ _ _ => by rfl
  rw [run_eql_struct w, show (10000 : Nat) = 9999 + 1 from rfl, run_equalIn_array w 9999 _ _ Try.underlying58 hi, hc, show List.range 4 = [0, 1, 2, 3] from rfl]
  simp only [Op.eqItems, Sem.run_bind, p0, p1, p2, p3, h1, Result.andThen_ok, Sem.run_ite]
  cases x0 == y0 <;> cases x1 == y1 <;> cases x2 == y2 <;> cases x3 == y3 <;> rfl
theorem eq_pad {a b : List Int} (hl : a.length = b.length) (h4 : a.length ≤ 4) : (a.getD 0 0 == b.getD 0 0 && (a.getD 1 0 == b.getD 1 0 && (a.getD 2 0 == b.getD 2 0 && a.getD 3 0 == b.getD 3 0))) = eqwB a b := by
  rw [Bool.eq_iff_iff]
  unfold eqwB
  rw [decide_eq_true_iff, cmpW_zero]
  simp only [Bool.and_eq_true, beq_iff_eq]
  constructor
  · rintro ⟨h0, h1, h2, h3⟩
    refine pad4_inj h4 hl ?_
    unfold pad4; rw [h0, h1, h2, h3]
  · rintro rfl; exact ⟨rfl, rfl, rfl, rfl⟩
set_option maxHeartbeats 4000000 in
set_option maxRecDepth 100000 in
theorem sami_any (B B' B'' : Nat) (v v' v'' : Value) (m : List (List Int)) (xs ys : List Int) (w : World) (h : MatB B w v m) (h' : RowB B' w v' xs) (h'' : RowB B'' w v'' ys) (hB : B ≤ w.heap.size) (hB' : B' ≤ w.heap.size) (hB'' : B'' ≤ w.heap.size) (hf : RowsFit m) (hx : xs.length ≤ 1048576) (hy : ys.length ≤ 1048576) :
    Calls Try.prog 16 #[v, v', v''] w fun e w' => e = .returned (.bool (samB m xs ys)) ∧ Below w.heap.size w w' := by
  have HI1 := Lib.hid (iswi_any B B' v v' m xs w h h' hf (by unfold maxLen; omega))
  have HI2 := Lib.hid (fun (wx : World) (hb : Below w.heap.size w wx) => iswi_any B B'' v v'' m ys wx (h.below hb hB) (h''.below hb hB'') hf (by unfold maxLen; omega))
  have HD := Lib.hid (show samB m xs ys = (wordB m xs && wordB m ys && eqwB (imgW m xs) (imgW m ys)) from rfl)
  by_cases h1 : IsW m xs
  · have HW1 := Lib.hid (wordB_yes h1)
    by_cases h2 : IsW m ys
    · have HW2 := Lib.hid (wordB_yes h2)
      have HM1 := Lib.hid (fun (wx : World) (hb : Below w.heap.size w wx) => iorho_any B B' v v' m xs wx (h.below hb hB) (h'.below hb hB') (Nat.le_trans hB hb.size) (Nat.le_trans hB' hb.size) hf h1.2.1 h1.1 hx)
      have HM2 := Lib.hid (fun (wx : World) (hb : Below w.heap.size w wx) => iorho_any B B'' v v'' m ys wx (h.below hb hB) (h''.below hb hB'') (Nat.le_trans hB hb.size) (Nat.le_trans hB'' hb.size) hf h1.2.1 h2.1 hy)
      have HEQ := Lib.hid (eq_pad (a := imgW m xs) (b := imgW m ys) (by rw [imgW_len, imgW_len]) (by rw [imgW_len]; exact h1.2.1.2.2.2))
      have hD := HD.out
      rw [HW1.out, HW2.out, Bool.true_and, Bool.true_and, ← HEQ.out] at hD
      rw [hD]
      rw [HW1.out] at HI1; rw [HW2.out] at HI2
      have e1 : imV (imgW m xs) = .agg #[.int .i64 ((imgW m xs).getD 0 0), .int .i64 ((imgW m xs).getD 1 0), .int .i64 ((imgW m xs).getD 2 0), .int .i64 ((imgW m xs).getD 3 0)] := rfl
      have e2 : imV (imgW m ys) = .agg #[.int .i64 ((imgW m ys).getD 0 0), .int .i64 ((imgW m ys).getD 1 0), .int .i64 ((imgW m ys).getD 2 0), .int .i64 ((imgW m ys).getD 3 0)] := rfl
      rw [e1] at HM1; rw [e2] at HM2
      clear e1 e2 HEQ
      clear h h' h'' hf h1 h2 HW1 HW2 HD hD
      generalize (imgW m xs).getD 0 0 = x0 at *
      generalize (imgW m xs).getD 1 0 = x1 at *
      generalize (imgW m xs).getD 2 0 = x2 at *
      generalize (imgW m xs).getD 3 0 = x3 at *
      generalize (imgW m ys).getD 0 0 = y0 at *
      generalize (imgW m ys).getD 1 0 = y1 at *
      generalize (imgW m ys).getD 2 0 = y2 at *
      generalize (imgW m ys).getD 3 0 = y3 at *
      have heq := fun wx => eq_im x0 x1 x2 x3 y0 y1 y2 y3 wx
      generalize (x0 == y0 && (x1 == y1 && (x2 == y2 && x3 == y3))) = r at *
      go_enter Try.func16, Try.ntmps16
      go_wp2_with fail
      refine HI1.out.mono ?_
      rintro e w1 ⟨rfl, q, rfl⟩
      have HB1 := Lib.hid (below_drewN (w := w) q)
      have HC2 := Lib.hid (HI2.out _ HB1.out)
      clear HI1 HI2
      go_wp2_with fail
      refine HC2.out.mono ?_
      rintro e w2 ⟨rfl, q2, rfl⟩
      have HB2 := Lib.hid (below_drewN (w := w) (q + q2))
      have HC3 := Lib.hid (HM1.out _ HB2.out)
      clear HC2 HM1
      go_wp2_with fail
      refine HC3.out.mono ?_
      rintro e w3 ⟨rfl, hb3⟩
      have HB3 := Lib.hid (HB2.out.trans (hb3.mono HB2.out.size))
      have HC4 := Lib.hid (HM2.out _ HB3.out)
      clear hb3 HC3 HM2
      go_wp2_with fail
      refine HC4.out.mono ?_
      rintro e w4 ⟨rfl, hb4⟩
      have HB4 := Lib.hid (HB3.out.trans (hb4.mono HB3.out.size))
      clear hb4 HC4
      go_wp2_with fail
      go_ret
      exact ⟨rfl, HB4.out⟩
    · have HW2 := Lib.hid (wordB_no h2)
      have hD := HD.out
      rw [HW1.out, HW2.out, Bool.and_false, Bool.false_and] at hD
      rw [hD]
      rw [HW1.out] at HI1; rw [HW2.out] at HI2
      clear h h' h'' hf h1 h2 HW1 HW2 HD hD
      go_enter Try.func16, Try.ntmps16
      go_wp2_with fail
      refine HI1.out.mono ?_
      rintro e w1 ⟨rfl, q, rfl⟩
      have HB1 := Lib.hid (below_drewN (w := w) q)
      have HC2 := Lib.hid (HI2.out _ HB1.out)
      clear HI1 HI2
      go_wp2_with fail
      refine HC2.out.mono ?_
      rintro e w2 ⟨rfl, q2, rfl⟩
      have HB2 := Lib.hid (below_drewN (w := w) (q + q2))
      go_wp2_with fail
      go_ret
      exact ⟨rfl, HB2.out⟩
  · have HW1 := Lib.hid (wordB_no h1)
    have hD := HD.out
    rw [HW1.out, Bool.false_and, Bool.false_and] at hD
    rw [hD]
    rw [HW1.out] at HI1
    clear h h' h'' hf h1 HW1 HD hD HI2
    go_enter Try.func16, Try.ntmps16
    go_wp2_with fail
    refine HI1.out.mono ?_
    rintro e w1 ⟨rfl, q, rfl⟩
    have HB1 := Lib.hid (below_drewN (w := w) q)
    go_wp2_with fail
    go_ret
    exact ⟨rfl, HB1.out⟩
end Go.Proofs.Ytbmghddmilgngaa
namespace Go.Proofs.Ytbmghddmilgngaa
open Go.RowKit

theorem iswi_e (v v' : Value) (m : List (List Int)) (l : List Int) (w : World) (h : MatB w.heap.size w v m) (h' : RowB w.heap.size w v' l) (hf : RowsFit m) (hl : l.length ≤ 1048576) :
    Calls Try.prog 49 #[v, v'] w fun e w' => e = .returned (.bool (wordB m l)) ∧ Below w.heap.size w w' :=
  (iswi_any _ _ v v' m l w h h' hf (by unfold maxLen; omega)).mono fun e w' ⟨h1, q, h2⟩ => ⟨h1, by rw [h2]; exact below_drewN q⟩
end Go.Proofs.Ytbmghddmilgngaa
namespace Go.Proofs.Ytbmghddmilgngaa
open Go.RowKit

end Go.Proofs.Ytbmghddmilgngaa
namespace Go.Proofs.Ytbmghddmilgngaa
open Go.RowKit

end Go.Proofs.Ytbmghddmilgngaa
namespace Go.Proofs.Ytbmghddmilgngaa
open Go.RowKit

theorem Wd.tail {m : List (List Int)} {i : Int} {ws : List Int} (h : Wd m (i :: ws)) : Wd m ws := by
  have hl := letTo_iff.1 h.lets
  have hs := h.short
  rw [List.length_cons] at hs
  exact ⟨h.car, letTo_iff.2 fun y hy => hl y (List.mem_cons_of_mem _ hy), by omega⟩
theorem Wd.erase {m : List (List Int)} {ws : List Int} (h : Wd m ws) (k : Nat) : Wd m (ws.eraseIdx k) := by
  have hl := letTo_iff.1 h.lets
  refine ⟨h.car, letTo_iff.2 fun y hy => hl y (List.mem_of_mem_eraseIdx hy), ?_⟩
  have h1 := List.length_eraseIdx_le ws k
  have h2 := h.short
  omega
set_option maxHeartbeats 4000000 in
set_option maxRecDepth 100000 in
theorem xi_e (vw v : Value) (m : List (List Int)) (ws : List Int) (i : Int) (w : World) (h : MatB w.heap.size w v m) (hr : RowB w.heap.size w vw ws) (hv : Roomy vw) (hf : RowsFit m) (hw : Wd m (i :: ws)) :
    Calls Try.prog 44 #[vw, v, .int .i64 i] w fun e w' => e = .returned (.int .i64 (xiI m ws i)) ∧ Below w.heap.size w w' := by
  have HX := Lib.hid h; have HW := Lib.hid hr
  have hws := hw.tail
  have hl30 := hws.short
  have HCT := Lib.hid (fun (wx : World) (hy : RowB wx.heap.size wx vw ws) => wcat_any _ (.slice (some ⟨wx.heap.size, 0, none⟩) 1 1) vw [i] ws (wx.alloc (.cells #[.int .i64 i] 3)) (lit_int wx i) (hy.upE ((Below.refl _ _).alloc (Nat.le_refl _) _)) (Nat.le_refl _) (by simp) (by omega))
  have HGO := Lib.hid (fun (z : Value) (wx : World) (hx : MatB wx.heap.size wx v m) (hz : RowB wx.heap.size wx z ([i] ++ ws)) => show Calls Try.prog 50 #[v, z] wx fun e w' => e = .returned (imV (imgW m (i :: ws))) ∧ Below wx.heap.size wx w' from iorho_any _ _ v z m (i :: ws) wx hx hz (Nat.le_refl _) (Nat.le_refl _) hf hw.car hw.lets (by have := hw.short; omega))
  have HWO := Lib.hid (fun (k : Nat) (hk : k < ws.length) (wx : World) (hy : RowB wx.heap.size wx vw ws) => wo_e vw ws k wx hy hv hk (by omega))
  have HIM := Lib.hid (fun (k : Nat) (z : Value) (wx : World) (hx : MatB wx.heap.size wx v m) (hz : RowB wx.heap.size wx z (ws.eraseIdx k)) => iorho_any _ _ v z m (ws.eraseIdx k) wx hx hz (Nat.le_refl _) (Nat.le_refl _) hf (hws.erase k).car (hws.erase k).lets (by have := (hws.erase k).short; omega))
  have HEX := Lib.hid (fun (k : Nat) (hk : k < ws.length) => show ((imgW m (ws.eraseIdx k)).getD 0 0 == (imgW m (i :: ws)).getD 0 0 && ((imgW m (ws.eraseIdx k)).getD 1 0 == (imgW m (i :: ws)).getD 1 0 && ((imgW m (ws.eraseIdx k)).getD 2 0 == (imgW m (i :: ws)).getD 2 0 && (imgW m (ws.eraseIdx k)).getD 3 0 == (imgW m (i :: ws)).getD 3 0))) = exP m ws i k from by
    rw [eq_pad (by rw [imgW_len, imgW_len]) (by rw [imgW_len]; exact hws.car.2.2.2)]
    unfold exP
    rw [delL_nat hk])
  have HAT := Lib.hid (fun (k : Nat) (hk : k < ws.length) (h1 : ∀ j, j < k → exP m ws i j = false) (h2 : exP m ws i k = true) => xiI_at hk h1 h2)
  have HNN := Lib.hid (fun (h1 : ∀ j, j < ws.length → exP m ws i j = false) => xiI_none h1)
  have HUP := Lib.hid (fun (k : Nat) (h1 : ∀ j, j < k → exP m ws i j = false) (h2 : exP m ws i k = false) => upto_step h1 h2)
  have HN4 := Lib.hid (fun (wx : World) => Im4.new (w := wx) (l := imgW m (i :: ws)) rfl)
  have HCL := Lib.hid (fun (wx : World) (g : Nat) (hi : Im4 wx g (imgW m (i :: ws))) => hi.cell rfl)
  obtain ⟨wa, wcap, rfl⟩ := HW.out.slice
  unfold imV at HGO HIM
  clear h hr hws hw hf hv
  generalize xiI m ws i = R at *
  generalize hn : ws.length = n at *
  clear hn
  generalize (imgW m (i :: ws)).getD 0 0 = y0 at *
  generalize (imgW m (i :: ws)).getD 1 0 = y1 at *
  generalize (imgW m (i :: ws)).getD 2 0 = y2 at *
  generalize (imgW m (i :: ws)).getD 3 0 = y3 at *
  generalize imgW m (i :: ws) = tg at *
  have HB := Lib.hid (Below.refl w.heap.size w)
  have HC := Lib.hid (HCT.out w HW.out)
  have hb1 : Below w.heap.size w (w.alloc (.cells #[.int .i64 i] 3)) := (Below.refl _ _).alloc (Nat.le_refl _) _
  replace HX := Lib.hid (HX.out.upE hb1); replace HW := Lib.hid (HW.out.upE hb1)
  replace HB := Lib.hid hb1
  clear hb1 HCT
  go_enter Try.func44, Try.ntmps44
  go_wp2_with fail
  refine HC.out.mono ?_
  rintro e w4 ⟨z, rfl, hz, hb⟩
  replace HX := Lib.hid (HX.out.upE hb); replace HW := Lib.hid (HW.out.upE hb)
  replace HB := Lib.hid (HB.out.trans (hb.mono HB.out.size))
  have HZ := Lib.hid hz.1.rowB
  clear hb hz HC
  go_wp2_with fail
  refine (HGO.out z _ HX.out HZ.out).mono ?_
  rintro e w5 ⟨rfl, hb⟩
  replace HX := Lib.hid (HX.out.upE hb); replace HW := Lib.hid (HW.out.upE hb)
  replace HB := Lib.hid (HB.out.trans (hb.mono HB.out.size))
  clear hb HZ HGO
  have hb5 : Below w5.heap.size w5 (w5.alloc (.cells #[.int .i64 y0, .int .i64 y1, .int .i64 y2, .int .i64 y3] 58)) := (Below.refl _ _).alloc (Nat.le_refl _) _
  replace HX := Lib.hid (HX.out.upE hb5); replace HW := Lib.hid (HW.out.upE hb5)
  replace HB := Lib.hid (HB.out.trans (hb5.mono HB.out.size))
  have HG := Lib.hid (HN4.out w5)
  clear hb5 HN4
  go_wp2_with fail
  go_loopw [17] (fun o wr => ∃ (k : Nat) (wq : World), wq = wr ∧ k ≤ n ∧ o = .int .i64 k ∧ Hid (∀ j, j < k → exP m ws i j = false) ∧ MatB wq.heap.size wq v m ∧ RowB wq.heap.size wq (.slice wa n wcap) ws ∧ Im4 wq w5.heap.size tg ∧ Below w.heap.size w wq) (fun o _ => n - (RowKit.intOf o).toNat)
  case atStart => exact ⟨0, _, rfl, Nat.zero_le _, rfl, Lib.hid (fun j hj => absurd hj (Nat.not_lt_zero _)), HX.out, HW.out, HG.out, HB.out⟩
  case round =>
    obtain ⟨k, wq, rfl, hk, rfl, hp, hx, hy, hg, hb⟩ := hrel
    clear HX HW HG HB
    have HX := Lib.hid hx; have HW := Lib.hid hy; have HG := Lib.hid hg; have HB := Lib.hid hb
    clear hx hy hg hb
    by_cases hlt : k < n
    · have hd : decide ((k : Int) < (n : Int)) = true := decide_eq_true (by omega)
      have hdn : decide (k < n) = true := decide_eq_true hlt
      have HE := Lib.hid (HEX.out k hlt)
      have HIK := Lib.hid (HIM.out k)
      have HA := Lib.hid (HAT.out k hlt hp.out)
      have HU := Lib.hid (HUP.out k hp.out)
      have hgs := HG.out.lt
      obtain ⟨c0, c1, c2, c3⟩ := HCL.out wq _ HG.out
      have HKS := Lib.hid (fun (w2 : World) (hb : Below wq.heap.size wq w2) => (⟨hb, (hb.cell (p := ⟨w5.heap.size, 0, none⟩) hgs).trans c0, (hb.cell (p := ⟨w5.heap.size, 1, none⟩) hgs).trans c1, (hb.cell (p := ⟨w5.heap.size, 2, none⟩) hgs).trans c2, (hb.cell (p := ⟨w5.heap.size, 3, none⟩) hgs).trans c3⟩ : Below wq.heap.size wq w2 ∧ w2.cell? ⟨w5.heap.size, 0, none⟩ = some (.int .i64 y0) ∧ w2.cell? ⟨w5.heap.size, 1, none⟩ = some (.int .i64 y1) ∧ w2.cell? ⟨w5.heap.size, 2, none⟩ = some (.int .i64 y2) ∧ w2.cell? ⟨w5.heap.size, 3, none⟩ = some (.int .i64 y3)))
      have HC1 := Lib.hid (HWO.out k hlt wq.drew (HW.out.upE (Below.refl _ _).drew))
      clear c0 c1 c2 c3
      generalize (imgW m (ws.eraseIdx k)).getD 0 0 = x0 at *
      generalize (imgW m (ws.eraseIdx k)).getD 1 0 = x1 at *
      generalize (imgW m (ws.eraseIdx k)).getD 2 0 = x2 at *
      generalize (imgW m (ws.eraseIdx k)).getD 3 0 = x3 at *
      have heq := fun wx => eq_im x0 x1 x2 x3 y0 y1 y2 y3 wx
      rw [HE.out] at heq
      go_wp2_with fail
      go_region_held3 (fun w' => Below wq.heap.size wq w' ∧ w'.cell? ⟨w5.heap.size, 0, none⟩ = some (.int .i64 y0) ∧ w'.cell? ⟨w5.heap.size, 1, none⟩ = some (.int .i64 y1) ∧ w'.cell? ⟨w5.heap.size, 2, none⟩ = some (.int .i64 y2) ∧ w'.cell? ⟨w5.heap.size, 3, none⟩ = some (.int .i64 y3)) (first | exact HKS.out _ (Below.refl _ _).drew | exact HKS.out _ hbW2 | exact HKS.out _ hbW)
        (first
          | (go_at_call 51; refine HC1.out.mono ?_; rintro e6 w6 ⟨z, rfl, hz, _, hb6⟩; have hbW : Below wq.heap.size wq w6 := (Below.refl wq.heap.size wq).drew.trans hb6; have HZ := Lib.hid hz; clear hz hb6)
          | (go_at_call 50; refine (HIK.out z w6 (HX.out.upE hbW) HZ.out).mono ?_; rintro e7 w7 ⟨rfl, hb7⟩; have hbW2 : Below wq.heap.size wq w7 := hbW.trans (hb7.mono hbW.size); clear hb7))
      replace HX := Lib.hid (HX.out.upE hbW2); replace HW := Lib.hid (HW.out.upE hbW2)
      replace HB := Lib.hid (HB.out.trans (hbW2.mono HB.out.size))
      replace HG := Lib.hid (HG.out.below hbW2 hgs)
      clear HKS HC1 hbW hbW2 HZ heq HE
      cases hq : exP m ws i k
      · have HN := Lib.hid (HU.out hq)
        clear hq HA HU
        go_wp2_with fail
        exact ⟨⟨k + 1, _, rfl, by omega, by go_num, HN, HX.out, HW.out, HG.out, HB.out⟩, by simp [RowKit.intOf]; omega⟩
      · have HR := Lib.hid (HA.out hq)
        clear hq HA HU
        go_wp2_with fail
        go_ret
        exact ⟨by rw [HR.out]; rfl, HB.out⟩
    · obtain rfl : k = n := by omega
      have hd : decide ((k : Int) < (k : Int)) = false := by simp
      have HR := Lib.hid (HNN.out hp.out)
      go_wp2_with fail
      go_ret
      exact ⟨by rw [HR.out]; rfl, HB.out⟩
end Go.Proofs.Ytbmghddmilgngaa
namespace Go.Proofs.Ytbmghddmilgngaa
open Go.RowKit

def hasB (l : List Int) (x : Int) : Bool := decide (x ∈ l)
theorem hasB_yes {l : List Int} {x : Int} (h : x ∈ l) : hasB l x = true := decide_eq_true h
theorem hasB_no {l : List Int} {x : Int} (h : ¬ x ∈ l) : hasB l x = false := decide_eq_false h
theorem take_getD {l : List Int} {k : Nat} (hk : k < l.length) : l.take (k + 1) = l.take k ++ [l.getD k 0] := by
  rw [List.take_succ_eq_append_getElem hk]; simp [List.getD, hk]
theorem mem_getD {l : List Int} {k : Nat} (hk : k < l.length) : l.getD k 0 ∈ l := by
  have : l.getD k 0 = l[k] := by simp [List.getD, hk]
  rw [this]; exact List.getElem_mem hk
/-- An order, as the model asks for it. -/
def ordC (n : Nat) (l : List Int) (k : Nat) : Prop := (0 ≤ l.getD k 0 ∧ l.getD k 0 ≤ (n : Int) - 1) ∧ ¬ l.getD k 0 ∈ l.take k
def OrdTo (n : Nat) (l : List Int) (k : Nat) : Prop := ∀ i, i < k → ordC n l i
theorem ordTo_step {n k : Nat} {l : List Int} (h : OrdTo n l k) (hk : ordC n l k) : OrdTo n l (k + 1) := fun i hi => by
  rcases Nat.lt_or_ge i k with h' | h'
  · exact h i h'
  · obtain rfl : i = k := by omega
    exact hk
def IsOrd (n : Nat) (l : List Int) : Prop := l.length = n ∧ OrdTo n l l.length
theorem isOrd_pt {n : Nat} {l : List Int} (h : IsOrd n l) : AllPt n l := fun k hk => (h.2 k hk).1
/-- The same, as the program asks for it. -/
def HasAll (n : Nat) (l : List Int) : Prop := l.length = n ∧ ∀ j : Nat, j < n → (j : Int) ∈ l
theorem fin4 {a : Int} (h : 0 ≤ a ∧ a ≤ 3) : a = 0 ∨ a = 1 ∨ a = 2 ∨ a = 3 := by omega
theorem ord_all0 (l : List Int) (n : Nat) (hn : n ≤ 4) (h : IsOrd n l) : HasAll n l := by
  obtain ⟨h0, h⟩ := h
  refine ⟨h0, fun j hj => ?_⟩
  subst h0
  match l, hn, h, hj with
  | [], _, _, hj => simp at hj
  | [a], _, h, hj =>
    have h1 := h 0 (by simp)
    simp [ordC] at h1 hj ⊢
    omega
  | [a, b], _, h, hj =>
    have h1 := h 0 (by simp)
    have h2 := h 1 (by simp)
    simp [ordC] at h1 h2 hj ⊢
    omega
  | [a, b, c], _, h, hj =>
    have h1 := h 0 (by simp)
    have h2 := h 1 (by simp)
    have h3 := h 2 (by simp)
    simp [ordC] at h1 h2 h3 hj ⊢
    omega
  | [a, b, c, d], _, h, hj =>
    have h1 := h 0 (by simp)
    have h2 := h 1 (by simp)
    have h3 := h 2 (by simp)
    have h4 := h 3 (by simp)
    simp [ordC] at h1 h2 h3 h4 hj ⊢
    omega
  | a :: b :: c :: d :: e :: l, hn, _, _ => simp at hn
theorem ord_all1 (l : List Int) (n : Nat) (hn : n ≤ 4) (h : HasAll n l) : IsOrd n l := by
  obtain ⟨h0, h⟩ := h
  refine ⟨h0, fun k hk => ?_⟩
  subst h0
  match l, hn, h, hk with
  | [], _, _, hk => simp at hk
  | [a], _, h, hk =>
    have h1 := h 0 (by simp)
    simp at h1 hk
    subst hk
    simp [ordC]
    omega
  | [a, b], _, h, hk =>
    have h1 := h 0 (by simp)
    have h2 := h 1 (by simp)
    simp at h1 h2 hk
    rcases (show k = 0 ∨ k = 1 by omega) with rfl | rfl <;> simp [ordC] <;> omega
  | [a, b, c], _, h, hk =>
    have h1 := h 0 (by simp)
    have h2 := h 1 (by simp)
    have h3 := h 2 (by simp)
    simp at h1 h2 h3 hk
    rcases (show k = 0 ∨ k = 1 ∨ k = 2 by omega) with rfl | rfl | rfl <;> simp [ordC] <;> omega
  | [a, b, c, d], _, h, hk =>
    have h1 := h 0 (by simp)
    have h2 := h 1 (by simp)
    have h3 := h 2 (by simp)
    have h4 := h 3 (by simp)
    simp at h1 h2 h3 h4 hk
    rcases (show k = 0 ∨ k = 1 ∨ k = 2 ∨ k = 3 by omega) with rfl | rfl | rfl | rfl <;> simp [ordC] <;> omega
  | a :: b :: c :: d :: e :: l, hn, _, _ => simp at hn
open Classical in
noncomputable def ordB (n : Nat) (l : List Int) : Bool := decide (IsOrd n l)
open Classical in
theorem ordB_yes {n : Nat} {l : List Int} (h : IsOrd n l) : ordB n l = true := decide_eq_true h
open Classical in
theorem ordB_no {n : Nat} {l : List Int} (h : ¬ IsOrd n l) : ordB n l = false := decide_eq_false h

/-! ### Is a number in a list -/
set_option maxHeartbeats 1000000 in
set_option maxRecDepth 100000 in
theorem hasl_any (B : Nat) (v : Value) (l : List Int) (x : Int) (w : World) (h : RowB B w v l) (hl : l.length ≤ maxLen) :
    Calls Try.prog 45 #[v, .int .i64 x] w fun e w' => e = .returned (.bool (hasB l x)) ∧ w = w' := by
  obtain ⟨a, cap, rfl⟩ := h.slice
  have HL := Lib.hid h; clear h
  have HYES := Lib.hid (fun (k : Nat) (hk : k < l.length) (e : l.getD k 0 = x) => hasB_yes (l := l) (x := x) (e ▸ mem_getD hk))
  have HNO := Lib.hid (fun (h : ¬ x ∈ l.take l.length) => hasB_no (l := l) (x := x) (by rwa [List.take_length] at h))
  have HST := Lib.hid (fun (k : Nat) (hk : k < l.length) (h : ¬ x ∈ l.take k) (e : ¬ l.getD k 0 = x) => show ¬ x ∈ l.take (k + 1) by
    rw [take_getD hk, List.mem_append]; rintro (h' | h'); exact h h'; have h9 := List.mem_singleton.1 h'; exact e h9.symm)
  generalize hasB l x = R at *
  generalize hln : l.length = L at *
  clear hln
  unfold maxLen at hl
  go_enter Try.func45, Try.ntmps45
  go_wp2_with fail
  go_loopw [5] (fun i wr => ∃ k : Nat, k ≤ L ∧ i = .int .i64 k ∧ wr = w ∧ Hid (¬ x ∈ l.take k)) (fun i _ => L - (RowKit.intOf i).toNat)
  case atStart => exact ⟨0, Nat.zero_le _, rfl, rfl, Lib.hid (by simp)⟩
  case round =>
    obtain ⟨k, hk, rfl, rfl, hs⟩ := hrel
    by_cases hlt : k < L
    · obtain ⟨lb, loff, rfl, hlb, hlc⟩ := HL.out.getD hlt
      by_cases he : l.getD k 0 = x
      · have HR := Lib.hid (HYES.out k hlt he)
        have hb : (l.getD k 0 == x) = true := by rw [beq_iff_eq]; exact he
        clear he
        generalize l.getD k 0 = y at *
        go_wp2_with fail
        go_ret
        exact ⟨ret_boolean HR.out.symm, rfl⟩
      · have HR := Lib.hid (HST.out k hlt hs.out he)
        have hb : (l.getD k 0 == x) = false := by rw [beq_eq_false_iff_ne]; exact he
        clear he
        generalize l.getD k 0 = y at *
        go_wp2_with fail
        exact ⟨⟨k + 1, by omega, by go_num, trivial, HR⟩, by simp [RowKit.intOf]; omega⟩
    · obtain rfl : k = L := by omega
      go_wp2_with fail
      go_ret
      exact ⟨ret_boolean (HNO.out hs.out).symm, rfl⟩

theorem has_q (B : Nat) (v : Value) (l : List Int) (x : Int) (c : Bool) (hc : hasB l x = c) (w : World) (h : RowB B w v l) (hl : l.length ≤ maxLen) (q : Nat) :
    Calls Try.prog 45 #[v, .int .i64 x] (w.drewN q) fun e w' => e = .returned (.bool c) ∧ ∃ m, w' = (w.drewN q).drewN m :=
  (hasl_any B v l x (w.drewN q) (h.drewN q) hl).mono fun e w' ⟨he, hw⟩ => ⟨by rw [he]; exact ret_boolean hc, 0, hw.symm⟩

set_option maxHeartbeats 1000000 in
set_option maxRecDepth 100000 in
theorem sindex_any (B : Nat) (v : Value) (l : List Int) (x : Int) (w : World) (h : RowB B w v l) (hl : l.length ≤ maxLen) :
    Calls Try.prog 67 #[v, .int .i64 x] w fun e w' => ∃ r : Int, e = .returned (.int .i64 r) ∧ decide (0 ≤ r) = hasB l x ∧ w = w' := by
  obtain ⟨a, cap, rfl⟩ := h.slice
  have HL := Lib.hid h; clear h
  have HYES := Lib.hid (fun (k : Nat) (hk : k < l.length) (e : l.getD k 0 = x) => hasB_yes (l := l) (x := x) (e ▸ mem_getD hk))
  have HNO := Lib.hid (fun (h : ¬ x ∈ l.take l.length) => hasB_no (l := l) (x := x) (by rwa [List.take_length] at h))
  have HST := Lib.hid (fun (k : Nat) (hk : k < l.length) (h : ¬ x ∈ l.take k) (e : ¬ l.getD k 0 = x) => show ¬ x ∈ l.take (k + 1) by
    rw [take_getD hk, List.mem_append]; rintro (h' | h'); exact h h'; have h9 := List.mem_singleton.1 h'; exact e h9.symm)
  generalize hasB l x = R at *
  generalize hln : l.length = L at *
  clear hln
  unfold maxLen at hl
  go_enter Try.func67, Try.ntmps67
  go_wp2_with fail
  go_loopw [8] (fun i wr => ∃ k : Nat, k ≤ L ∧ i = .int .i64 k ∧ wr = w ∧ Hid (¬ x ∈ l.take k)) (fun i _ => L - (RowKit.intOf i).toNat)
  case atStart => exact ⟨0, Nat.zero_le _, rfl, rfl, Lib.hid (by simp)⟩
  case round =>
    obtain ⟨k, hk, rfl, rfl, hs⟩ := hrel
    by_cases hlt : k < L
    · obtain ⟨lb, loff, rfl, hlb, hlc⟩ := HL.out.getD hlt
      by_cases he : l.getD k 0 = x
      · have HR := Lib.hid (HYES.out k hlt he)
        have hb : (x == l.getD k 0) = true := by rw [beq_iff_eq]; exact he.symm
        clear he
        generalize l.getD k 0 = y at *
        go_wp2_with fail
        go_ret
        exact ⟨_, rfl, by rw [HR.out]; exact decide_eq_true (by omega), rfl⟩
      · have HR := Lib.hid (HST.out k hlt hs.out he)
        have hb : (x == l.getD k 0) = false := by rw [beq_eq_false_iff_ne]; exact fun e => he e.symm
        clear he
        generalize l.getD k 0 = y at *
        go_wp2_with fail
        exact ⟨⟨k + 1, by omega, by go_num, trivial, HR⟩, by simp [RowKit.intOf]; omega⟩
    · obtain rfl : k = L := by omega
      go_wp2_with fail
      go_ret
      exact ⟨_, rfl, by rw [HNO.out hs.out]; rfl, rfl⟩
theorem scont_any (B : Nat) (v : Value) (l : List Int) (x : Int) (w : World) (h : RowB B w v l) (hl : l.length ≤ maxLen) :
    Calls Try.prog 42 #[v, .int .i64 x] w fun e w' => e = .returned (.bool (hasB l x)) ∧ w = w' := by
  have HL := Lib.hid h; clear h
  go_enter Try.func42, Try.ntmps42
  go_wp2_with fail
  refine (sindex_any B v l x w HL.out hl).mono ?_
  rintro e w' ⟨r, rfl, hr, rfl⟩
  go_wp2_with fail
  go_ret
  exact ⟨rfl, rfl⟩

end Go.Proofs.Ytbmghddmilgngaa
