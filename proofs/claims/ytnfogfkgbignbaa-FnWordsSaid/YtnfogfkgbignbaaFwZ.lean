/-
  What the law on words asks besides: an append that stands behind a guard; words that agree.
  Proved here: for every byte slice, the law FnWords answers true: words drawn from it are read back from their texts, compared by length and letters, joined, turned round, and their letters listed as the model does.
  Proved here: for every byte slice, the law FnWords answers true and leaves its argument alone: words drawn from it are read back from their texts, compared by length and letters, joined, turned round, and their letters listed as the model does. No condition.
-/
import Derived.Test.YtnfogfkgbignbaaWrdAB
import Derived.Test.YtnfogfkgbignbaaDrx5
import Derived.Test.YtnfogfkgbignbaaWrdM
import Derived.Test.YtnfogfkgbignbaaSame
import Derived.Outline
import Derived.Test.YtnfogfkgbignbaaCode
import Derived.Test.YtnfogfkgbignbaaSeat
namespace Go.Proofs.Ytnfogfkgbignbaa
open Go.RowKit

/-- 'append(row, xs...)' behind a guard that holds. -/
theorem append_intsQ {ops : Array Oper} {rest : List Oper} {o : Oper} {a : Act} {Q : Exit → Act → World → Prop} {s x : Operand} {A B : Nat} {v xv : Value} {l l2 : List Int} {wr : World}
    (hM : RowI A wr.heap.size wr v l) (hA : A ≤ wr.heap.size) (hr : RowB B wr xv l2) (hlen : l.length + l2.length ≤ 4194304) (hgd : Region.wanted o (yielded ops a.tmps) = true)
    (ho : o.op = .call { callee := .builtin .append, args := #[s, x], argTypes := #[25, 25] }) (hs : a.eval s = v) (hx : a.eval x = xv)
    (h : AfterRow A wr (l ++ l2) fun v' w' => wpList Try.prog ops Q rest (a.put o.dst v') w') : wpList Try.prog ops Q (o :: rest) a wr :=
  wpList_step fun K hK => by
    rw [if_pos hgd]
    exact wp_intsA hM hA hr ho hs hx hlen fun v' w' h2 h3 h4 => hK _ _ (h v' w' h2 h3 h4)
theorem RowB.upW {w w' : World} {v : Value} {l : List Int} (h : RowB w.heap.size w v l) (hb : Below w.heap.size w w') : RowB w'.heap.size w' v l := (h.below hb (Nat.le_refl _)).mono hb.size
theorem MatB.upW {w w' : World} {v : Value} {m : List (List Int)} (h : MatB w.heap.size w v m) (hb : Below w.heap.size w w') : MatB w'.heap.size w' v m := (h.below hb (Nat.le_refl _)).mono hb.size
theorem smS_w (v v' : Value) (l : List Int) (w : World) (h : RowB w.heap.size w v l) (h' : RowB w.heap.size w v' l) (hl : l.length ≤ maxLen) :
    Calls Try.prog 20 #[v, v'] w fun e w' => e = .returned (.bool true) ∧ Below w.heap.size w w' :=
  (smS_any _ v v' l l w h h' hl hl).mono fun e w' ⟨h1, q, h2⟩ => ⟨by rw [h1, eqL_yes rfl], by rw [h2]; exact below_drewN q⟩
theorem big_w (w : World) (a : Option Addr) (len cap : Nat) (_hl : len ≤ 9223372036854775807) :
    Calls Try.prog 13 #[.slice a len cap] w fun e w' => e = .returned (.bool (decide (1048576 < (len : Int)))) ∧ w = w' := by
  go_enter Try.func13, Try.ntmps13
  go_wp2
  go_ret
  exact ⟨rfl, rfl⟩
theorem wordB_isW {m : List (List Int)} {l : List Int} (h : wordB m l = true) : IsW m l := Classical.byContradiction fun h' => by rw [wordB_no h'] at h; cases h
theorem cmpW_range (a b : List Int) : -1 ≤ cmpW a b ∧ cmpW a b ≤ 1 := by
  have hL : ∀ (a b : List Int), -1 ≤ cmpL a b ∧ cmpL a b ≤ 1 := by
    intro a
    induction a with
    | nil => intro b; cases b <;> (unfold cmpL; omega)
    | cons x a ih =>
      intro b
      cases b with
      | nil => unfold cmpL; omega
      | cons y b =>
        unfold cmpL
        have := ih b
        split
        · omega
        · split <;> omega
  have := hL a b
  unfold cmpW
  split
  · omega
  · split <;> omega
theorem fmtB_list (l : List Int) : (fmtB l).data.toList = fmtW l := rfl
theorem fmtB_small (l : List Int) (h : l.length ≤ 12) : (fmtB l).size ≤ 1048576 := by
  have h1 := fmtW_short l
  show (fmtW l).toArray.size ≤ _
  simp; omega
end Go.Proofs.Ytnfogfkgbignbaa
namespace Go.Proofs.Ytnfogfkgbignbaa
open Go.ChangeShapes Go.WideShapes Go.ChangeAt Go.ChangeMaps Go.RowKit

set_option maxHeartbeats 16000000 in
set_option maxRecDepth 100000 in
theorem fw_law (a : Option Addr) (len cap : Nat) (w : World) (hl : len ≤ 1048576) (hcode : CodeB w.heap.size w (.slice a len cap) len) :
    Calls Try.prog 3 #[.slice a len cap] w fun e w' => e = .returned (.bool true) ∧ Below w.heap.size w w' := by
  have HC := Lib.hid hcode; clear hcode
  have hbig : decide (1048576 < (len : Int)) = false := by rw [decide_eq_false_iff_not]; omega
  go_enter Try.func3, Try.ntmps3
  go_wp2_with fail
  refine (big_w _ a len cap (by omega)).mono ?_
  rintro e w0 ⟨rfl, rfl⟩
  have HB := Lib.hid (Below.refl w.heap.size w)
  go_wp2_with fail
  refine (drawIw_any w.heap.size _ _ len hl (HC.out.below HB.out) HB.out.size).mono ?_
  rintro e w1 ⟨x, y, m, l, rfl, hb, h1, h2, h3, h4⟩
  replace HB := Lib.hid (HB.out.trans (hb.mono HB.out.size))
  have HX := Lib.hid (h1.mat)
  have HA := Lib.hid (h2)
  have HY := Lib.hid (h3.1.rowB)
  have HLL := Lib.hid (h4)
  clear hb
  go_wp2_with fail
  clear h1 h2 h3 h4
  have HLM := Lib.hid (show l.length ≤ maxLen by have := HLL.out; unfold maxLen; omega)
  have HL1 := Lib.hid (show l.length ≤ 1048576 by have := HLL.out; omega)
  have HPF := Lib.hid (pw_fmt m l)
  have HFI := Lib.hid (fun (wx : World) (hx : RowB wx.heap.size wx y l) => fmwi_b _ y l wx hx (Nat.le_refl _) HL1.out)
  have HFS := Lib.hid (fun (wx : World) (hx : RowB wx.heap.size wx y l) => fmws_b _ y l wx hx (Nat.le_refl _) HL1.out)
  have HPI := Lib.hid (fun (wx : World) (hx : MatB wx.heap.size wx x m) => pwi_any _ x m (fmtB l) wx hx (Nat.le_refl _) HA.out.fit (fmtB_small l HLL.out))
  rw [fmtB_list] at HPI
  rw [HPF.out.1] at HPI
  have HII := Lib.hid (fun (wx : World) (hx : MatB wx.heap.size wx x m) (hy : RowB wx.heap.size wx y l) => iswi_b _ _ x y m l wx hx hy HA.out.fit HLM.out)
  have HIS := Lib.hid (fun (wx : World) (hx : MatB wx.heap.size wx x m) (hy : RowB wx.heap.size wx y l) => isws_b _ _ x y m l wx hx hy HA.out.fit HLM.out)
  have HZL := Lib.hid (fun (h : wordB m l = true) => HPF.out.2 (wordB_isW h))
  clear HPF
  generalize pwL m (fmtW l) = zl at *
  generalize wordB m l = wb at *
  generalize fmtB l = fs at *
  have hfs : (fs.toList == fs.toList) = true := by simp
  refine (HFI.out _ HY.out).mono ?_
  rintro e w2 ⟨rfl, hb⟩
  replace HB := Lib.hid (HB.out.trans (hb.mono HB.out.size))
  replace HX := Lib.hid (HX.out.upW hb)
  replace HY := Lib.hid (HY.out.upW hb)
  clear hb
  go_wp2_with fail
  refine (HPI.out _ HX.out).mono ?_
  rintro e w3 ⟨z, rfl, h1, hb⟩
  replace HB := Lib.hid (HB.out.trans (hb.mono HB.out.size))
  replace HX := Lib.hid (HX.out.upW hb)
  replace HY := Lib.hid (HY.out.upW hb)
  have HZ := Lib.hid (h1.1.rowB)
  clear hb
  go_wp2_with fail
  clear h1 HPI HFI
  refine (HFS.out _ HY.out).mono ?_
  rintro e w4 ⟨rfl, hb⟩
  replace HB := Lib.hid (HB.out.trans (hb.mono HB.out.size))
  replace HX := Lib.hid (HX.out.upW hb)
  replace HY := Lib.hid (HY.out.upW hb)
  replace HZ := Lib.hid (HZ.out.upW hb)
  clear hb
  go_wp2_with fail
  refine (HII.out _ HX.out HY.out).mono ?_
  rintro e w5 ⟨rfl, hb⟩
  replace HB := Lib.hid (HB.out.trans (hb.mono HB.out.size))
  replace HX := Lib.hid (HX.out.upW hb)
  replace HY := Lib.hid (HY.out.upW hb)
  replace HZ := Lib.hid (HZ.out.upW hb)
  clear hb
  go_wp2_with fail
  refine (HIS.out _ HX.out HY.out).mono ?_
  rintro e w6 ⟨rfl, hb⟩
  replace HB := Lib.hid (HB.out.trans (hb.mono HB.out.size))
  replace HX := Lib.hid (HX.out.upW hb)
  replace HY := Lib.hid (HY.out.upW hb)
  replace HZ := Lib.hid (HZ.out.upW hb)
  clear hb
  go_wp2_with fail
  have hwb : (wb != wb) = false := by simp
  go_wp2_with fail
  clear HFS
  cases wb
  case' true => rw [HZL.out rfl] at HZ
  all_goals
    clear HZL hwb hfs
    refine (HIS.out _ HX.out HY.out).mono ?_
    rintro e w7 ⟨rfl, hb⟩
    replace HB := Lib.hid (HB.out.trans (hb.mono HB.out.size))
    replace HX := Lib.hid (HX.out.upW hb)
    replace HY := Lib.hid (HY.out.upW hb)
    replace HZ := Lib.hid (HZ.out.upW hb)
    clear hb
    go_wp2_with fail
    clear HIS HII
    try (refine (smS_w _ _ l _ HZ.out HY.out HLM.out).mono ?_; rintro e wq ⟨rfl, hb⟩; replace HB := Lib.hid (HB.out.trans (hb.mono HB.out.size)); replace HX := Lib.hid (HX.out.upW hb); replace HY := Lib.hid (HY.out.upW hb); clear hb; go_wp2_with fail)
    clear HZ
    refine (drawCw_any w.heap.size _ _ len hl (HC.out.below HB.out) HB.out.size).mono ?_
    rintro e w8 ⟨xa, xb, la, lb, rfl, hb, h1, h2, h3, h4⟩
    replace HB := Lib.hid (HB.out.trans (hb.mono HB.out.size))
    replace HY := Lib.hid (HY.out.upW hb)
    have HP := Lib.hid (h1)
    have HPL := Lib.hid (h2)
    have HQ := Lib.hid (h3)
    have HQL := Lib.hid (h4)
    clear hb
    go_wp2_with fail
    clear h1 h2 h3 h4 HX HA
    have HPM := Lib.hid (show la.length ≤ maxLen by have := HPL.out; unfold maxLen; omega)
    have HQM := Lib.hid (show lb.length ≤ maxLen by have := HQL.out; unfold maxLen; omega)
    have HP1 := Lib.hid (show la.length ≤ 1048576 by have := HPL.out; omega)
    have HQ1 := Lib.hid (show lb.length ≤ 1048576 by have := HQL.out; omega)
    have HCI := Lib.hid (fun (wx : World) (hx : RowB wx.heap.size wx xa la) (hy : RowB wx.heap.size wx xb lb) => cmpwi_b _ _ xa xb la lb wx hx hy HPM.out HQM.out)
    have HCS := Lib.hid (fun (wx : World) (hx : RowB wx.heap.size wx xa la) (hy : RowB wx.heap.size wx xb lb) => cmps_b _ _ xa xb la lb wx hx hy HPM.out HQM.out)
    have HCR := Lib.hid (fun (wx : World) (hx : RowB wx.heap.size wx xa la) (hy : RowB wx.heap.size wx xb lb) => cmpwi_b _ _ xb xa lb la wx hy hx HQM.out HPM.out)
    rw [cmpW_neg la lb] at HCR
    have HEQ := Lib.hid (fun (wx : World) (hx : RowB wx.heap.size wx xa la) (hy : RowB wx.heap.size wx xb lb) => eqwi_b _ _ xa xb la lb wx hx hy HPM.out HQM.out)
    rw [show eqwB la lb = (cmpW la lb == 0) from rfl] at HEQ
    obtain ⟨hk1, hk2⟩ := cmpW_range la lb
    generalize cmpW la lb = kk at *
    refine (HCI.out _ HP.out HQ.out).mono ?_
    rintro e w9 ⟨rfl, hb⟩
    replace HB := Lib.hid (HB.out.trans (hb.mono HB.out.size))
    replace HP := Lib.hid (HP.out.upW hb)
    replace HQ := Lib.hid (HQ.out.upW hb)
    replace HY := Lib.hid (HY.out.upW hb)
    clear hb
    go_wp2_with fail
    refine (drawPw_any w.heap.size _ _ len hl (HC.out.below HB.out) HB.out.size).mono ?_
    rintro e w10 ⟨xd, md, ts, rfl, hb, h1, h2, h3⟩
    replace HB := Lib.hid (HB.out.trans (hb.mono HB.out.size))
    replace HP := Lib.hid (HP.out.upW hb)
    replace HQ := Lib.hid (HQ.out.upW hb)
    replace HY := Lib.hid (HY.out.upW hb)
    have HD := Lib.hid (h1)
    have HDA := Lib.hid (h2)
    clear hb
    go_wp2_with fail
    have hts : ts.size ≤ 1048576 := by omega
    have HPI := Lib.hid (fun (wx : World) (hx : MatB wx.heap.size wx xd md) => pwi_any _ xd md ts wx hx (Nat.le_refl _) HDA.out.fit hts)
    have HPS := Lib.hid (fun (wx : World) (hx : MatB wx.heap.size wx xd md) => pws_any _ xd md ts wx hx (Nat.le_refl _) HDA.out.fit hts)
    clear h1 h2 h3 hts
    generalize pwL md ts.data.toList = pl at *
    generalize pwB md ts.data.toList = pb at *
    refine (HPI.out _ HD.out).mono ?_
    rintro e w11 ⟨z1, rfl, h1, hb⟩
    replace HB := Lib.hid (HB.out.trans (hb.mono HB.out.size))
    replace HP := Lib.hid (HP.out.upW hb)
    replace HQ := Lib.hid (HQ.out.upW hb)
    replace HY := Lib.hid (HY.out.upW hb)
    replace HD := Lib.hid (HD.out.upW hb)
    clear hb
    go_wp2_with fail
    clear h1
    refine (HPS.out _ HD.out).mono ?_
    rintro e w12 ⟨z2, rfl, h1, hb⟩
    replace HB := Lib.hid (HB.out.trans (hb.mono HB.out.size))
    replace HP := Lib.hid (HP.out.upW hb)
    replace HQ := Lib.hid (HQ.out.upW hb)
    replace HY := Lib.hid (HY.out.upW hb)
    clear hb
    go_wp2_with fail
    clear h1 HD HDA HPI HPS
    refine (drawAw_any w.heap.size _ _ len hl (HC.out.below HB.out) HB.out.size).mono ?_
    rintro e w13 ⟨ii, jj, nn, rfl, hb, hn⟩
    replace HB := Lib.hid (HB.out.trans (hb.mono HB.out.size))
    replace HP := Lib.hid (HP.out.upW hb)
    replace HQ := Lib.hid (HQ.out.upW hb)
    replace HY := Lib.hid (HY.out.upW hb)
    clear hb
    go_wp2_with fail
    have HNN := Lib.hid hn; clear hn
    have HAI := Lib.hid (fun (wx : World) => alti_any ii jj nn wx HNN.out.2 HNN.out.1)
    have HAS := Lib.hid (fun (wx : World) => alts_any ii jj nn wx HNN.out.2 HNN.out.1)
    have HAL := Lib.hid (show (altL ii jj nn).length ≤ maxLen by have := altL_len ii jj nn; unfold maxLen; omega)
    clear HNN
    generalize altL ii jj nn = al at *
    have hkk : (kk == kk) = true := by simp
    refine (HCS.out _ HP.out HQ.out).mono ?_
    rintro e w14 ⟨rfl, hb⟩
    replace HB := Lib.hid (HB.out.trans (hb.mono HB.out.size))
    replace HP := Lib.hid (HP.out.upW hb)
    replace HQ := Lib.hid (HQ.out.upW hb)
    replace HY := Lib.hid (HY.out.upW hb)
    clear hb
    go_wp2_with fail
    refine (HCR.out _ HP.out HQ.out).mono ?_
    rintro e w15 ⟨rfl, hb⟩
    replace HB := Lib.hid (HB.out.trans (hb.mono HB.out.size))
    replace HP := Lib.hid (HP.out.upW hb)
    replace HQ := Lib.hid (HQ.out.upW hb)
    replace HY := Lib.hid (HY.out.upW hb)
    clear hb
    go_wp2_with fail
    refine (HEQ.out _ HP.out HQ.out).mono ?_
    rintro e w16 ⟨rfl, hb⟩
    replace HB := Lib.hid (HB.out.trans (hb.mono HB.out.size))
    replace HP := Lib.hid (HP.out.upW hb)
    replace HQ := Lib.hid (HQ.out.upW hb)
    replace HY := Lib.hid (HY.out.upW hb)
    clear hb
    go_wp2_with fail
    clear HCI HCS HCR HEQ
    refine (cati_any _ xa xb la lb _ HP.out HQ.out (Nat.le_refl _) HP1.out HQ1.out).mono ?_
    rintro e w17 ⟨c1, rfl, h1, hb⟩
    replace HB := Lib.hid (HB.out.trans (hb.mono HB.out.size))
    replace HP := Lib.hid (HP.out.upW hb)
    replace HQ := Lib.hid (HQ.out.upW hb)
    replace HY := Lib.hid (HY.out.upW hb)
    have HK := Lib.hid (h1.1.rowB)
    clear hb
    clear h1
    have hb0 : Below w17.heap.size w17 (w17.alloc (.cells #[] 3)) := (Below.refl _ _).alloc (Nat.le_refl _) _
    have HP0 := Lib.hid (HP.out.below hb0 (Nat.le_refl _))
    have HQ0 := Lib.hid (HQ.out.below hb0 (Nat.le_refl _))
    have hs0 : w17.heap.size ≤ (w17.alloc (.cells #[] 3)).heap.size := by simp
    have HB0 := Lib.hid hb0; clear hb0
    have H1 := Lib.hid (show ([] : List Int).length + la.length ≤ 4194304 by have := HPL.out; simp; omega)
    have H2 := Lib.hid (show ([] ++ la : List Int).length + lb.length ≤ 4194304 by have := HPL.out; have := HQL.out; simp; omega)
    go_wp2_with (first | (at_builtin; go_must (refine append_intsQ (row_empty w17) hs0 HP0.out H1.out rfl rfl rfl rfl ?_)))
    intro v3 w30 hr3 hb3 hz3
    have hb30 := hb3 _ _ (Nat.le_refl _) HB0.out
    have HQ3 := Lib.hid (HQ.out.below hb30 (Nat.le_refl _))
    have HR3 := Lib.hid hr3
    have hs3 := hb30.size
    have HB3 := Lib.hid hb30
    clear hr3 hb3 hz3 hb30
    go_wp2_with (at_builtin; go_must (refine append_intsQ HR3.out hs3 HQ3.out H2.out rfl rfl rfl rfl ?_))
    intro v4 w40 hr4 hb4 hz4
    have hb := hb4 _ _ (Nat.le_refl _) HB3.out
    have HR4 := Lib.hid hr4.rowB
    replace HB := Lib.hid (HB.out.trans (hb.mono HB.out.size))
    replace HP := Lib.hid (HP.out.upW hb)
    replace HQ := Lib.hid (HQ.out.upW hb)
    replace HY := Lib.hid (HY.out.upW hb)
    replace HK := Lib.hid (HK.out.upW hb)
    clear hr4 hb4 hz4 hb HB0 HP0 HQ0 hs0 H1 H2 HQ3 HR3 hs3 HB3
    have HKL := Lib.hid (show (la ++ lb).length ≤ maxLen by have := HPL.out; have := HQL.out; rw [List.length_append]; unfold maxLen; omega)
    go_wp2_with fail
    refine (smS_w _ _ (la ++ lb) _ HK.out HR4.out HKL.out).mono ?_
    rintro e w18 ⟨rfl, hb⟩
    replace HB := Lib.hid (HB.out.trans (hb.mono HB.out.size))
    replace HP := Lib.hid (HP.out.upW hb)
    replace HQ := Lib.hid (HQ.out.upW hb)
    replace HY := Lib.hid (HY.out.upW hb)
    clear hb
    go_wp2_with fail
    clear HK HR4 HKL
    have HRL := Lib.hid (show la.reverse.length ≤ 1048576 by rw [List.length_reverse]; exact HP1.out)
    have HRR := Lib.hid (List.reverse_reverse la)
    refine (revi_any _ _ la _ HP.out (Nat.le_refl _) HP1.out).mono ?_
    rintro e w19 ⟨r1, rfl, h1, hb⟩
    replace HB := Lib.hid (HB.out.trans (hb.mono HB.out.size))
    replace HP := Lib.hid (HP.out.upW hb)
    replace HY := Lib.hid (HY.out.upW hb)
    have HR1 := Lib.hid (h1.1.rowB)
    clear hb
    go_wp2_with fail
    clear h1 HQ
    refine (revi_any _ _ la.reverse _ HR1.out (Nat.le_refl _) HRL.out).mono ?_
    rintro e w20 ⟨r2, rfl, h1, hb⟩
    replace HB := Lib.hid (HB.out.trans (hb.mono HB.out.size))
    replace HP := Lib.hid (HP.out.upW hb)
    replace HY := Lib.hid (HY.out.upW hb)
    clear hb
    rw [HRR.out] at h1
    have HR2 := Lib.hid h1.1.rowB
    clear h1 HR1 HRL HRR
    go_wp2_with fail
    refine (smS_w _ _ la _ HR2.out HP.out HPM.out).mono ?_
    rintro e w21 ⟨rfl, hb⟩
    replace HB := Lib.hid (HB.out.trans (hb.mono HB.out.size))
    replace HY := Lib.hid (HY.out.upW hb)
    clear hb
    go_wp2_with fail
    clear HR2 HP
    refine (supi_any _ _ l _ HY.out (Nat.le_refl _) HL1.out).mono ?_
    rintro e w22 ⟨s1, rfl, h1, hb⟩
    replace HB := Lib.hid (HB.out.trans (hb.mono HB.out.size))
    replace HY := Lib.hid (HY.out.upW hb)
    have HS1 := Lib.hid (h1.1.rowB)
    clear hb
    go_wp2_with fail
    clear h1
    refine (sups_any _ _ l _ HY.out (Nat.le_refl _) HL1.out).mono ?_
    rintro e w23 ⟨s2, rfl, h1, hb⟩
    replace HB := Lib.hid (HB.out.trans (hb.mono HB.out.size))
    replace HS1 := Lib.hid (HS1.out.upW hb)
    have HS2 := Lib.hid (h1.1.rowB)
    clear hb
    go_wp2_with fail
    clear h1 HY
    have HSL := Lib.hid (show (suppL l).length ≤ maxLen by have := suppL_len l; have := HL1.out; unfold maxLen; omega)
    refine (smS_w _ _ (suppL l) _ HS1.out HS2.out HSL.out).mono ?_
    rintro e w24 ⟨rfl, hb⟩
    replace HB := Lib.hid (HB.out.trans (hb.mono HB.out.size))
    clear hb
    go_wp2_with fail
    clear HS1 HS2 HSL
    refine (HAI.out _).mono ?_
    rintro e w25 ⟨t1, rfl, h1, hb⟩
    replace HB := Lib.hid (HB.out.trans (hb.mono HB.out.size))
    have HT1 := Lib.hid (h1.1.rowB)
    clear hb
    go_wp2_with fail
    clear h1
    refine (HAS.out _).mono ?_
    rintro e w26 ⟨t2, rfl, h1, hb⟩
    replace HB := Lib.hid (HB.out.trans (hb.mono HB.out.size))
    replace HT1 := Lib.hid (HT1.out.upW hb)
    have HT2 := Lib.hid (h1.1.rowB)
    clear hb
    go_wp2_with fail
    clear h1
    refine (smS_w _ _ al _ HT1.out HT2.out HAL.out).mono ?_
    rintro e w27 ⟨rfl, hb⟩
    replace HB := Lib.hid (HB.out.trans (hb.mono HB.out.size))
    clear hb
    go_wp2_with fail
    go_ret
    exact ⟨rfl, HB.out⟩
end Go.Proofs.Ytnfogfkgbignbaa
namespace Go.Proofs.Ytnfogfkgbignbaa
open Go.ChangeShapes Go.WideShapes Go.ChangeAt Go.ChangeMaps Go.RowKit
set_option maxRecDepth 100000

set_option maxHeartbeats 400000 in
theorem fw_huge (a : Option Addr) (len cap : Nat) (w : World) (hl : len ≤ 9223372036854775807) (h : 1048576 < len) :
    Calls Try.prog 3 #[.slice a len cap] w fun e w' => e = .returned (.bool true) ∧ Below w.heap.size w w' := by
  have hbig : decide (1048576 < (len : Int)) = true := by rw [decide_eq_true_eq]; omega
  go_enter Try.func3, Try.ntmps3
  go_wp2_with fail
  refine (big_w _ a len cap hl).mono ?_
  rintro e w0 ⟨rfl, rfl⟩
  go_wp2_with fail
  go_ret
  exact ⟨rfl, Below.refl _ _⟩

theorem fw_every {H : Type} {enc : TypeId × Value → H} {base : Nat} {d : DataW H} {ps : List MemPlace} (v : Value) (w : World) (hval : Value.okWide Try.prog w .any base 22 v)
    (h0 : DataW.Trod enc Try.prog w 0 (fun _ => true) true 22 v d ps) :
    Calls Try.prog 3 #[v] w fun e w' => e = .returned (.bool true) ∧ Below w.heap.size w w' := by
  obtain ⟨a, len, cap, rfl, hl, hcode⟩ := code_open hval h0
  unfold maxLen at hl
  rcases Nat.lt_or_ge 1048576 len with h | h
  · exact fw_huge a len cap w (by omega) h
  · exact fw_law a len cap w h hcode

theorem fw_lifted (os : Os) (started : os.Started) (H : Type) (enc : TypeId × Value → H) :
    ReturnsInHanded {} Try.checked os 3 .any (Rows.fnWordsSpec.pre6 enc Try.prog Try.f3 Rows.fnWordsRow.domain false) (Rows.fnWordsSpec.post enc Try.prog Try.f3 false true false false) := by
  refine returnsInHanded_of_change (C := Try.checked) seat_own started (by kernel_rfl) Try.func3
    (ChangeSpec.witness6 (enc := enc) (C := Try.checked) false ⟨#[], #[.slice none 0 0], []⟩ 8 (by kernel_rfl) (by kernel_rfl) (by kernel_rfl) (by kernel_rfl)) ?_
  intro W base args ds gs before hval0 hW hcnd _
  have hval : ∀ (j : Nat) t v, Try.f3.params[j]? = some t → args[j]? = some v → Value.okWide Try.prog W .any base t v := hval0
  have hW' := hW
  obtain ⟨p, q, hA0, hV, rfl, hfz, hnd⟩ := hW
  have hA : DataW.TrodAll enc Try.prog W 0 (fun _ => true) true Try.f3.params.toList args.toList ds p := hA0
  rw [Try.params3] at hA hval
  obtain ⟨u0, d0, rfl, rfl, h0⟩ := trodAll_one hA
  obtain ⟨rfl, rfl⟩ := trodVars_none hV
  clear hA0 hval0
  simp only [List.append_nil] at hW'
  refine (fw_every u0 W (hval 0 22 u0 rfl rfl) h0).mono fun e W' ⟨he, hw⟩ => ?_
  subst he
  exact ⟨_, rfl, law_post seat_laidOut (by kernel_rfl) rfl (by kernel_rfl) Try.underlying4 hW' rfl hw⟩

theorem fw_holds : Rows.FnWordsSaid :=
  OpenClaim.holds_of_wide 3 Try.f3 rfl rfl rfl rfl rfl rfl rfl ⟨rfl, rfl, rfl, rfl, rfl⟩ rfl rfl rfl rfl rfl (by kernel_rfl) Try.func3 (by kernel_rfl)
    (of_decide_eq_true (by kernel_rfl)) (by unfold Func.isWrapper; first | (rw [if_pos (by decide +kernel)]; kernel_rfl) | (rw [if_neg (by decide +kernel)]; exact ⟨rfl, rfl⟩))
    (fun os started H enc _ => fw_lifted os started H enc)
end Go.Proofs.Ytnfogfkgbignbaa
