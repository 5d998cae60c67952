/-
  Words: what the model's CompareWords, EqualWords, SupportOf and AlternatingWord return.
  Lengths: what the model's NormalForm, LengthOf, IsReduced and SignOf return.
  Lengths: what the model's LeftDescents, RightDescents and AreSame return.
  Words: what the program's IsWord returns.
-/
import Derived.Deep.QuietTactic
import Derived.BigQuiet
import Derived.Test.YtfjeghalkmkgoaaFl17
import Derived.Test.YtfjeghalkmkgoaaFl18
import Derived.Test.YtfjeghalkmkgoaaFl06
namespace Go.Proofs.Ytfjeghalkmkgoaa
open Go.RowKit

theorem ret_i64 {a b : Int} (h : a = b) : Ending.returned (.int .i64 a) = .returned (.int .i64 b) := by rw [h]
set_option maxHeartbeats 2000000 in
set_option maxRecDepth 100000 in
theorem cmps_any (B : Nat) (v v' : Value) (l l' : List Int) (w : World) (h : RowB B w v l) (h' : RowB B w v' l') (hl : l.length ≤ maxLen) (hl' : l'.length ≤ maxLen) :
    Calls Try.prog 84 #[v, v'] w fun e w' => e = .returned (.int .i64 (cmpW l l')) ∧ ∃ q, w' = w.drewN q := by
  obtain ⟨a, cap, rfl⟩ := h.slice
  obtain ⟨a', cap', rfl⟩ := h'.slice
  have HL := Lib.hid h; have HL' := Lib.hid h'
  clear h h'
  unfold maxLen at hl hl'
  have HLT := Lib.hid (fun (h : l.length < l'.length) => cmpW_lt h)
  have HGT := Lib.hid (fun (h : l'.length < l.length) => cmpW_gt h)
  have HAT := Lib.hid (fun k (hl : l.length = l'.length) (hk : k < l.length) (he : l.take k = l'.take k) (hne : l.getD k 0 ≠ l'.getD k 0) => cmpW_at hl hk he hne)
  have HEQ := Lib.hid (fun (h : l = l') => show cmpW l l' = 0 from cmpW_zero.2 h)
  have HTK := Lib.hid (fun k (hk : k < l.length) (hk' : k < l'.length) (he : l.take k = l'.take k) (hx : l.getD k 0 = l'.getD k 0) => show l.take (k + 1) = l'.take (k + 1) from by
    rw [List.take_succ_eq_append_getElem hk, List.take_succ_eq_append_getElem hk', he]
    simp [List.getD, hk, hk'] at hx
    rw [hx])
  have HFU := Lib.hid (fun (h1 : l.length = l'.length) (he : l.take l.length = l'.take l.length) => show l = l' from by
    rw [List.take_length, h1, List.take_length] at he; exact he)
  generalize cmpW l l' = R at *
  generalize hn : l.length = n at *
  generalize hn' : l'.length = n' at *
  have HN := Lib.hid hn; have HN' := Lib.hid hn'
  clear hn hn'
  rcases Nat.lt_trichotomy n n' with hlt | heq | hgt
  · have HV := Lib.hid (HLT.out hlt)
    have hne : ((n : Int) != (n' : Int)) = true := by rw [bne_iff_ne]; omega
    have hd : decide (n < n') = true := decide_eq_true hlt
    clear HLT HGT HAT HEQ HTK HFU hlt
    go_enter Try.func84, Try.ntmps84
    go_wp2_with fail
    go_ret
    exact ⟨ret_i64 HV.out.symm, 0, rfl⟩
  · subst heq
    go_enter Try.func84, Try.ntmps84
    go_wp2_with fail
    go_loopw [5] (fun i wr => ∃ (k q : Nat), k ≤ n ∧ i = .int .i64 k ∧ wr = w.drewN q ∧ Hid (l.take k = l'.take k)) (fun i _ => n - (intOf i).toNat)
    case atStart => exact ⟨0, 0, Nat.zero_le _, rfl, rfl, Lib.hid rfl⟩
    case round =>
      obtain ⟨k, q, hk, rfl, rfl, hp⟩ := hrel
      by_cases hlt : k < n
      · obtain ⟨b, off, rfl, hb, hc⟩ := HL.out.getD hlt
        obtain ⟨b', off', rfl, hb', hc'⟩ := HL'.out.getD hlt
        have HV := Lib.hid (fun h => HAT.out k (by first | rfl | trivial) hlt hp.out h)
        have HS := Lib.hid (fun h => HTK.out k hlt hlt hp.out h)
        clear HLT HGT HAT HEQ HTK HFU
        generalize l.getD k 0 = x at *
        generalize l'.getD k 0 = y at *
        by_cases hxy : x < y
        · have hd : decide (x < y) = true := decide_eq_true hxy
          have HV2 := Lib.hid ((HV.out (by omega)).trans (if_pos hxy))
          clear HV HS hxy
          go_wp2_with fail
          go_quiet (fail)
          go_wp2_with fail
          go_ret
          exact ⟨ret_i64 HV2.out.symm, q + nq, World.drewN_drewN _ _ _⟩
        · have hd : decide (x < y) = false := decide_eq_false hxy
          by_cases hyx : y < x
          · have hd2 : decide (y < x) = true := decide_eq_true hyx
            have HV2 := Lib.hid ((HV.out (by omega)).trans (if_neg hxy))
            clear HV HS hxy hyx
            go_wp2_with fail
            go_quiet (fail)
            go_wp2_with fail
            go_quiet (fail)
            go_wp2_with fail
            go_ret
            exact ⟨ret_i64 HV2.out.symm, _, by rw [World.drewN_drewN, World.drewN_drewN]⟩
          · have hd2 : decide (y < x) = false := decide_eq_false hyx
            have HS2 := Lib.hid (HS.out (by omega))
            clear HV HS hxy hyx
            go_wp2_with fail
            go_quiet (fail)
            go_wp2_with fail
            go_quiet (fail)
            go_wp2_with fail
            exact ⟨⟨k + 1, _, by omega, by go_num, rfl, HS2⟩, by simp [intOf]; omega⟩
      · obtain rfl : k = n := by omega
        have HV := Lib.hid (HEQ.out (HFU.out (by first | rfl | trivial) hp.out))
        clear HLT HGT HAT HEQ HTK HFU
        go_wp2_with fail
        go_ret
        exact ⟨ret_i64 HV.out.symm, q, rfl⟩
  · have HV := Lib.hid (HGT.out hgt)
    have hne : ((n : Int) != (n' : Int)) = true := by rw [bne_iff_ne]; omega
    have hd : decide (n < n') = false := decide_eq_false (by omega)
    clear HLT HGT HAT HEQ HTK HFU hgt
    go_enter Try.func84, Try.ntmps84
    go_wp2_with fail
    go_ret
    exact ⟨ret_i64 HV.out.symm, 0, rfl⟩
def eqwB (l l' : List Int) : Bool := decide (cmpW l l' = 0)
set_option maxRecDepth 100000 in
theorem eqws_any (B : Nat) (v v' : Value) (l l' : List Int) (w : World) (h : RowB B w v l) (h' : RowB B w v' l') (hl : l.length ≤ maxLen) (hl' : l'.length ≤ maxLen) :
    Calls Try.prog 60 #[v, v'] w fun e w' => e = .returned (.bool (eqwB l l')) ∧ ∃ q, w' = w.drewN q := by
  have HC := Lib.hid (cmps_any B v v' l l' w h h' hl hl')
  have HE := Lib.hid (show (cmpW l l' == 0) = eqwB l l' from rfl)
  clear h h' hl hl'
  generalize cmpW l l' = c at *
  go_enter Try.func60, Try.ntmps60
  go_wp2_with fail
  refine HC.out.mono ?_
  rintro e w' ⟨rfl, q, rfl⟩
  go_wp2_with fail
  go_ret
  exact ⟨ret_boolean HE.out, q, rfl⟩

set_option maxHeartbeats 2000000 in
set_option maxRecDepth 100000 in
theorem alts_any (i j n : Int) (w : World) (hn : n ≤ 9223372036854775807) (hn0 : -9223372036854775808 ≤ n) :
    Calls Try.prog 96 #[.int .i64 i, .int .i64 j, .int .i64 n] w (MakesS w (altL i j n)) := by
  have HV := Lib.hid (show altL i j n = altK i j (min n.toNat 15) from rfl)
  have HEV := Lib.hid (fun k (h : k % 2 = 0) => altK_even (i := i) (j := j) (k := k) h)
  have HOD := Lib.hid (fun k (h : ¬ k % 2 = 0) => altK_odd (i := i) (j := j) (k := k) h)
  have HLN := Lib.hid (altK_len i j)
  generalize altL i j n = R at *
  go_enter Try.func96, Try.ntmps96
  go_wp2_with fail
  go_loopw [7, 8] (fun o i' wr => ∃ (k : Nat) (wq : World), wq = wr ∧ k ≤ min n.toNat 15 ∧ i' = .int .i64 k ∧ RowI w.heap.size wq.heap.size wq o (altK i j k) ∧ Below w.heap.size w wq) (fun _ i' _ => 15 - (intOf i').toNat)
  case atStart => exact ⟨0, _, rfl, Nat.zero_le _, rfl, row_empty w, (Below.refl _ _).alloc (Nat.le_refl _) _⟩
  case round =>
    obtain ⟨k, wq, rfl, hk, rfl, hM, hb⟩ := hrel
    have HM := Lib.hid hM; clear hM
    have hsq := hb.size
    have HB := Lib.hid hb; clear hb
    by_cases hlt : k < min n.toNat 15
    · have h1 : decide ((k : Int) < n) = true := decide_eq_true (by omega)
      have h2 : decide ((k : Int) < 15) = true := decide_eq_true (by omega)
      have h15 : k < 15 := by omega
      have hmin : k + 1 ≤ min n.toNat 15 := hlt
      have HMN := Lib.hid hmin
      have HRL := Lib.hid (show (altK i j k).length ≤ 4194304 by rw [HLN.out]; omega)
      clear hk hlt hmin
      by_cases hev : k % 2 = 0
      · have hm : ((k : Int) % 2 == 0) = true := by rw [beq_iff_eq]; omega
        have HS := Lib.hid (HEV.out k hev)
        clear hev
        go_wp2_with (at_builtin; go_must (refine append_int HM.out hsq i rfl rfl rfl rfl HRL.out ?_; intro v' w3 hr3 hb3 hz3))
        rw [HS.out] at hr3
        have HR3 := Lib.hid hr3
        have HB3 := Lib.hid (hb3 w w.heap.size (Nat.le_refl _) HB.out)
        clear hr3 hb3 hz3
        go_wp2_with fail
        exact ⟨⟨k + 1, _, rfl, HMN.out, by go_num, HR3.out, HB3.out⟩, by simp [intOf]; omega⟩
      · have hm : ((k : Int) % 2 == 0) = false := by rw [beq_eq_false_iff_ne]; omega
        have HS := Lib.hid (HOD.out k hev)
        clear hev
        go_wp2_with (at_builtin; go_must (refine append_int HM.out hsq j rfl rfl rfl rfl HRL.out ?_; intro v' w3 hr3 hb3 hz3))
        rw [HS.out] at hr3
        have HR3 := Lib.hid hr3
        have HB3 := Lib.hid (hb3 w w.heap.size (Nat.le_refl _) HB.out)
        clear hr3 hb3 hz3
        go_wp2_with fail
        exact ⟨⟨k + 1, _, rfl, HMN.out, by go_num, HR3.out, HB3.out⟩, by simp [intOf]; omega⟩
    · have hke : k = min n.toNat 15 := by omega
      have HKE := Lib.hid hke
      have hcase : decide ((k : Int) < n) = false ∨ (decide ((k : Int) < n) = true ∧ decide ((k : Int) < 15) = false) := by
        by_cases h : (k : Int) < n
        · exact Or.inr ⟨decide_eq_true h, decide_eq_false (by omega)⟩
        · exact Or.inl (decide_eq_false h)
      clear hke hlt hk
      rcases hcase with h1 | ⟨h1, h2⟩
      all_goals
        go_wp2_with fail
        go_ret
        exact ⟨_, rfl, ⟨by rw [HV.out, ← HKE.out]; exact HM.out, Nat.le_refl _⟩, HB.out⟩
end Go.Proofs.Ytfjeghalkmkgoaa
namespace Go.Proofs.Ytfjeghalkmkgoaa
open Go.RowKit

set_option maxHeartbeats 4000000 in
set_option maxRecDepth 100000 in
theorem nrm8_any (B B' : Nat) (v v' : Value) (m : List (List Int)) (ws : List Int) (w : World) (h : MatB B w v m) (h' : RowB B' w v' ws) (hB : B ≤ w.heap.size) (hB' : B' ≤ w.heap.size) (hf : RowsFit m) (hI : IsC m) (hW : LetTo m.length ws ws.length) (hw : ws.length ≤ 1048576) :
    Calls Try.prog 52 #[v, v'] w (MakesS w (frmI m 31 (imgW m ws))) := by
  have HIM := Lib.hid (img8_any B B' v v' m ws w h h' hB hB' hf hI hW hw)
  have HFM := Lib.hid (fun (x : Value) (wx : World) (hb : Below w.heap.size w wx) (hx : RowB wx.heap.size wx x (imgW m ws)) => frm8_any B wx.heap.size v x m (imgW m ws) wx (h.below hb hB) hx (Nat.le_trans hB hb.size) (Nat.le_refl _) hI (imgW_len m ws))
  clear h h' hf hI hW
  generalize imgW m ws = im at *
  generalize frmI m 31 im = R at *
  go_enter Try.func52, Try.ntmps52
  go_wp2_with fail
  refine HIM.out.mono ?_
  rintro e w1 ⟨x, rfl, hx, hb1⟩
  have HB1 := Lib.hid hb1
  have HC := Lib.hid (HFM.out x w1 hb1 hx.1.rowB)
  clear hx hb1
  go_wp2_with fail
  refine HC.out.mono ?_
  rintro e w2 ⟨y, rfl, hy, hb2⟩
  have HY := Lib.hid (hy.1.mono HB1.out.size (Nat.le_refl _))
  have HB2 := Lib.hid (HB1.out.trans (hb2.mono HB1.out.size))
  clear hy hb2
  go_wp2_with fail
  go_ret
  exact ⟨_, rfl, ⟨HY.out, Nat.le_refl _⟩, HB2.out⟩
set_option maxHeartbeats 4000000 in
set_option maxRecDepth 100000 in
theorem nrms_any (B B' : Nat) (v v' : Value) (m : List (List Int)) (ws : List Int) (w : World) (h : MatB B w v m) (h' : RowB B' w v' ws) (hB : B ≤ w.heap.size) (hB' : B' ≤ w.heap.size) (hf : RowsFit m) (hw : ws.length ≤ 1048576) :
    Calls Try.prog 21 #[v, v'] w (MakesS2 w (nrmL m ws) (.bool (wordB m ws))) := by
  have HIW := Lib.hid (isws_any B B' v v' m ws w h h' hf (by unfold maxLen; omega))
  by_cases hW : IsW m ws
  · have HV := Lib.hid (nrmL_yes hW)
    have HB := Lib.hid (wordB_yes hW)
    have HNR := Lib.hid (fun (wx : World) (hb : Below w.heap.size w wx) => nrm8_any B B' v v' m ws wx (h.below hb hB) (h'.below hb hB') (Nat.le_trans hB hb.size) (Nat.le_trans hB' hb.size) hf hW.2.1 hW.1 hw)
    rw [HB.out] at HIW ⊢
    clear h h' hf hW HB
    generalize nrmL m ws = R at *
    rw [← HV.out] at HNR
    clear HV
    go_enter Try.func21, Try.ntmps21
    go_wp2_with fail
    refine HIW.out.mono ?_
    rintro e w1 ⟨rfl, q, rfl⟩
    have HB1 := Lib.hid (below_drewN (w := w) q)
    have HC := Lib.hid (HNR.out _ HB1.out)
    clear HIW HNR
    go_wp2_with fail
    refine HC.out.mono ?_
    rintro e w2 ⟨y, rfl, hy, hb2⟩
    have HY := Lib.hid (hy.1.mono HB1.out.size (Nat.le_refl _))
    have HB2 := Lib.hid (HB1.out.trans (hb2.mono HB1.out.size))
    clear hy hb2
    go_wp2_with fail
    go_ret2
    exact ⟨_, rfl, ⟨HY.out, Nat.le_refl _⟩, HB2.out⟩
  · have HV := Lib.hid (nrmL_no hW)
    have HB := Lib.hid (wordB_no hW)
    rw [HB.out] at HIW ⊢
    rw [HV.out]
    clear h h' hf hW HB HV
    go_enter Try.func21, Try.ntmps21
    go_wp2_with fail
    refine HIW.out.mono ?_
    rintro e w1 ⟨rfl, q, rfl⟩
    have HB1 := Lib.hid (below_drewN (w := w) q)
    clear HIW
    go_wp2_with fail
    go_ret2
    exact ⟨_, rfl, ⟨(row_empty (w.drewN q)).mono HB1.out.size (Nat.le_refl _), Nat.le_refl _⟩, HB1.out.alloc HB1.out.size _⟩
noncomputable def lenI (m : List (List Int)) (ws : List Int) : Int := if wordB m ws = true then ((nrmL m ws).length : Int) else -1
set_option maxHeartbeats 4000000 in
set_option maxRecDepth 100000 in
theorem lens_any (B B' : Nat) (v v' : Value) (m : List (List Int)) (ws : List Int) (w : World) (h : MatB B w v m) (h' : RowB B' w v' ws) (hB : B ≤ w.heap.size) (hB' : B' ≤ w.heap.size) (hf : RowsFit m) (hw : ws.length ≤ 1048576) :
    Calls Try.prog 15 #[v, v'] w fun e w' => e = .returned (.int .i64 (lenI m ws)) ∧ Below w.heap.size w w' := by
  have HN := Lib.hid (nrms_any B B' v v' m ws w h h' hB hB' hf hw)
  have HV := Lib.hid (show lenI m ws = if wordB m ws = true then ((nrmL m ws).length : Int) else -1 from rfl)
  clear h h' hf
  generalize lenI m ws = R at *
  generalize nrmL m ws = nl at *
  generalize wordB m ws = wb at *
  cases wb with
  | true =>
    have hv := HV.out
    rw [if_pos rfl] at hv
    subst hv
    go_enter Try.func15, Try.ntmps15
    go_wp2_with fail
    refine HN.out.mono ?_
    rintro e w1 ⟨x, rfl, hx, hb1⟩
    have HB1 := Lib.hid hb1
    obtain ⟨xa, xcap, rfl⟩ := hx.1.slice
    clear hx hb1
    go_wp2_with fail
    go_ret
    exact ⟨rfl, HB1.out⟩
  | false =>
    have hv := HV.out
    rw [if_neg (by simp)] at hv
    subst hv
    go_enter Try.func15, Try.ntmps15
    go_wp2_with fail
    refine HN.out.mono ?_
    rintro e w1 ⟨x, rfl, hx, hb1⟩
    have HB1 := Lib.hid hb1
    obtain ⟨xa, xcap, rfl⟩ := hx.1.slice
    clear hx hb1
    go_wp2_with fail
    go_ret
    exact ⟨rfl, HB1.out⟩
set_option maxHeartbeats 4000000 in
set_option maxRecDepth 100000 in
theorem isrd_any (B B' : Nat) (v v' : Value) (m : List (List Int)) (ws : List Int) (w : World) (h : MatB B w v m) (h' : RowB B' w v' ws) (hB : B ≤ w.heap.size) (hB' : B' ≤ w.heap.size) (hf : RowsFit m) (hw : ws.length ≤ 1048576) :
    Calls Try.prog 26 #[v, v'] w fun e w' => e = .returned (.bool (lenI m ws == (ws.length : Int))) ∧ Below w.heap.size w w' := by
  have HN := Lib.hid (lens_any B B' v v' m ws w h h' hB hB' hf hw)
  obtain ⟨a', cap', rfl⟩ := h'.slice
  clear h h' hf
  generalize lenI m ws = R at *
  generalize ws.length = n at *
  go_enter Try.func26, Try.ntmps26
  go_wp2_with fail
  refine HN.out.mono ?_
  rintro e w1 ⟨rfl, hb1⟩
  have HB1 := Lib.hid hb1
  clear hb1
  go_wp2_with fail
  go_ret
  exact ⟨rfl, HB1.out⟩
end Go.Proofs.Ytfjeghalkmkgoaa
namespace Go.Proofs.Ytfjeghalkmkgoaa
open Go.RowKit

noncomputable def ldsL (m : List (List Int)) (ws : List Int) : List Int := if wordB m ws = true then dnsK (imgW m ws) m.length else []
theorem ldsL_yes {m : List (List Int)} {ws : List Int} (h : IsW m ws) : ldsL m ws = dnsK (imgW m ws) m.length := if_pos (wordB_yes h)
theorem ldsL_no {m : List (List Int)} {ws : List Int} (h : ¬ IsW m ws) : ldsL m ws = [] := by unfold ldsL; rw [wordB_no h]; rfl
theorem ldsL_len (m : List (List Int)) (ws : List Int) : (ldsL m ws).length ≤ 4 := by
  by_cases h : IsW m ws
  · rw [ldsL_yes h]; have := dnsK_len (imgW m ws) m.length; have := h.2.1.2.2.2; omega
  · rw [ldsL_no h]; simp
set_option maxHeartbeats 4000000 in
set_option maxRecDepth 100000 in
theorem ldss_any (B B' : Nat) (v v' : Value) (m : List (List Int)) (ws : List Int) (w : World) (h : MatB B w v m) (h' : RowB B' w v' ws) (hB : B ≤ w.heap.size) (hB' : B' ≤ w.heap.size) (hf : RowsFit m) (hw : ws.length ≤ 1048576) :
    Calls Try.prog 28 #[v, v'] w (MakesS w (ldsL m ws)) := by
  have hb0 : Below w.heap.size w (w.alloc (.cells #[] 3)) := (Below.refl _ _).alloc (Nat.le_refl _) _
  have HB0 := Lib.hid hb0
  have HIW := Lib.hid (isws_any B B' v v' m ws (w.alloc (.cells #[] 3)) (h.below hb0 hB) (h'.below hb0 hB') hf (by unfold maxLen; omega))
  have HM0 := Lib.hid (row_empty w)
  by_cases hW : IsW m ws
  · have HV := Lib.hid (ldsL_yes hW)
    have HWB := Lib.hid (wordB_yes hW)
    have HIM := Lib.hid (fun (wx : World) (hb : Below w.heap.size w wx) => img8_any B B' v v' m ws wx (h.below hb hB) (h'.below hb hB') (Nat.le_trans hB hb.size) (Nat.le_trans hB' hb.size) hf hW.2.1 hW.1 hw)
    have hn1 := hW.2.1.2.2.1
    have hn4 := hW.2.1.2.2.2
    have HLI := Lib.hid (imgW_len m ws)
    have HDY := Lib.hid (fun k h => dnsK_yes (l := imgW m ws) (k := k) h)
    have HDN := Lib.hid (fun k h => dnsK_no (l := imgW m ws) (k := k) h)
    have HDL := Lib.hid (fun k => dnsK_len (imgW m ws) k)
    rw [HWB.out] at HIW
    clear h h' hf hW HWB hb0
    rw [HV.out]
    clear HV
    generalize imgW m ws = im at *
    generalize hn : m.length = n at *
    clear hn
    have hsa : w.heap.size ≤ (w.alloc (.cells #[] 3)).heap.size := by simp
    go_enter Try.func28, Try.ntmps28
    go_wp2_with fail
    refine HIW.out.mono ?_
    rintro e w1 ⟨rfl, q, rfl⟩
    have HB1 := Lib.hid (HB0.out.trans ((below_drewN (w := w.alloc (.cells #[] 3)) q).mono hsa))
    have HM1 := Lib.hid (HM0.out.step (below_drewN q))
    have HC := Lib.hid (HIM.out _ HB1.out)
    clear HIW HIM HM0 HB0
    go_wp2_with fail
    refine HC.out.mono ?_
    rintro e w2 ⟨x, rfl, hx, hb2⟩
    have HX2 := Lib.hid (CurR.new (o := .slice (some ⟨w.heap.size, 0, none⟩) 0 0) hx.1 (by rw [HLI.out]; omega) (Nat.le_refl _) (fun g hg => (HM1.out.1.lt g hg).2))
    have HM2 := Lib.hid (HM1.out.step hb2)
    have HB2 := Lib.hid (HB1.out.trans (hb2.mono HB1.out.size))
    obtain ⟨xa, xcap, rfl⟩ := hx.1.slice
    clear hx hb2 HC
    rw [HLI.out] at HX2 ⊢
    go_wp2_with fail
    go_loopw [5, 7] (fun o i wr => ∃ (k : Nat) (wq : World), wq = wr ∧ k ≤ n ∧ i = .int .i64 k ∧ RowI w.heap.size wq.heap.size wq o (dnsK im k) ∧ CurR wq o (.slice xa n xcap) im ∧ Below w.heap.size w wq) (fun _ i _ => n - (intOf i).toNat)
    case atStart => exact ⟨0, _, rfl, Nat.zero_le _, rfl, HM2.out, HX2.out, HB2.out⟩
    case round =>
      obtain ⟨k, wq, rfl, hk, rfl, hM, hC, hb⟩ := hrel
      have HM := Lib.hid hM; have HB := Lib.hid hb; have HX := Lib.hid hC
      have hsq := hb.size
      have HCB := Lib.hid hC.rowB
      clear hM hb hC
      by_cases hlt : k < n
      · have hd : decide (k < n) = true := decide_eq_true hlt
        obtain ⟨b, off, rfl, hbb, hx⟩ := HCB.out.getD hlt
        by_cases hp : im.getD k 0 < 0
        · have hd2 : decide (im.getD k 0 < 0) = true := decide_eq_true hp
          have HS := Lib.hid (HDY.out k hp)
          have HRL := Lib.hid (show (dnsK im k).length ≤ 4194304 from by have := HDL.out k; omega)
          generalize im.getD k 0 = y at *
          go_wp2_with (at_builtin; go_must (refine append_intP HM.out hsq rfl (k : Int) rfl rfl rfl rfl HRL.out ?_; intro v6 w6 hr6 hg6 hl6))
          rw [HS.out] at hr6
          have HC6 := Lib.hid (HX.out.grown hg6 hl6)
          have HM6 := Lib.hid hr6
          have HB6 := Lib.hid (HB.out.grown hg6 hsq (fun j hj => (HM.out.1.lt j hj).1))
          clear hr6 hg6 hl6
          go_wp2_with fail
          exact ⟨⟨k + 1, _, rfl, by omega, by go_num, HM6.out, HC6.out, HB6.out⟩, by simp [intOf]; omega⟩
        · have hd2 : decide (im.getD k 0 < 0) = false := decide_eq_false hp
          have hs := HDN.out k (by omega)
          have HMS := Lib.hid (show RowI w.heap.size wq.heap.size wq _ (dnsK im (k + 1)) from hs ▸ HM.out)
          clear hs
          generalize im.getD k 0 = y at *
          go_wp2_with fail
          exact ⟨⟨k + 1, _, rfl, by omega, by go_num, HMS.out, HX.out, HB.out⟩, by simp [intOf]; omega⟩
      · obtain rfl : k = n := by omega
        have hd : decide (k < k) = false := by simp
        go_wp2_with fail
        go_ret
        exact ⟨_, rfl, ⟨HM.out, Nat.le_refl _⟩, HB.out⟩
  · have HV := Lib.hid (ldsL_no hW)
    have HWB := Lib.hid (wordB_no hW)
    rw [HWB.out] at HIW
    rw [HV.out]
    clear h h' hf hW HWB hb0 HV
    have hsa : w.heap.size ≤ (w.alloc (.cells #[] 3)).heap.size := by simp
    go_enter Try.func28, Try.ntmps28
    go_wp2_with fail
    refine HIW.out.mono ?_
    rintro e w1 ⟨rfl, q, rfl⟩
    have HB1 := Lib.hid (HB0.out.trans ((below_drewN (w := w.alloc (.cells #[] 3)) q).mono hsa))
    have HM1 := Lib.hid (HM0.out.step (below_drewN q))
    go_wp2_with fail
    go_ret
    exact ⟨_, rfl, ⟨HM1.out, Nat.le_refl _⟩, HB1.out⟩
set_option maxHeartbeats 4000000 in
set_option maxRecDepth 100000 in
theorem rdss_any (B B' : Nat) (v v' : Value) (m : List (List Int)) (ws : List Int) (w : World) (h : MatB B w v m) (h' : RowB B' w v' ws) (hB : B ≤ w.heap.size) (hB' : B' ≤ w.heap.size) (hf : RowsFit m) (hw : ws.length ≤ 1048576) :
    Calls Try.prog 30 #[v, v'] w (MakesS w (ldsL m ws.reverse)) := by
  have HRV := Lib.hid (revs_any B' v' ws w h' hB' hw)
  have HLD := Lib.hid (fun (x : Value) (wx : World) (hb : Below w.heap.size w wx) (hx : RowB wx.heap.size wx x ws.reverse) => ldss_any B wx.heap.size v x m ws.reverse wx (h.below hb hB) hx (Nat.le_trans hB hb.size) (Nat.le_refl _) hf (by rw [List.length_reverse]; exact hw))
  clear h h' hf
  generalize ws.reverse = rv at *
  generalize ldsL m rv = R at *
  go_enter Try.func30, Try.ntmps30
  go_wp2_with fail
  refine HRV.out.mono ?_
  rintro e w1 ⟨x, rfl, hx, hb1⟩
  have HB1 := Lib.hid hb1
  have HC := Lib.hid (HLD.out x w1 hb1 hx.1.rowB)
  clear hx hb1
  go_wp2_with fail
  refine HC.out.mono ?_
  rintro e w2 ⟨y, rfl, hy, hb2⟩
  have HY := Lib.hid (hy.1.mono HB1.out.size (Nat.le_refl _))
  have HB2 := Lib.hid (HB1.out.trans (hb2.mono HB1.out.size))
  clear hy hb2
  go_wp2_with fail
  go_ret
  exact ⟨_, rfl, ⟨HY.out, Nat.le_refl _⟩, HB2.out⟩
end Go.Proofs.Ytfjeghalkmkgoaa
namespace Go.Proofs.Ytfjeghalkmkgoaa
open Go.RowKit

open Classical in
noncomputable def letB (n : Nat) (l : List Int) : Bool := decide (LetTo n l l.length)
open Classical in
theorem letB_yes {n : Nat} {l : List Int} (h : LetTo n l l.length) : letB n l = true := decide_eq_true h
open Classical in
theorem letB_no {n : Nat} {l : List Int} (h : ¬ LetTo n l l.length) : letB n l = false := decide_eq_false h
open Classical in
theorem wordB_is (m : List (List Int)) (l : List Int) : wordB m l = (isB m && decide (l.length ≤ 15) && letB m.length l) := by
  by_cases hI : IsC m
  · by_cases h15 : l.length ≤ 15
    · by_cases hl : LetTo m.length l l.length
      · rw [wordB_yes ⟨hl, hI, h15⟩, isB_yes hI, decide_eq_true h15, letB_yes hl]; rfl
      · rw [wordB_no (fun h => hl h.1), letB_no hl, Bool.and_false]
    · rw [wordB_no (fun h => h15 h.2.2), decide_eq_false h15, Bool.and_false, Bool.false_and]
  · rw [wordB_no (fun h => hI h.2.1), isB_no hI, Bool.false_and, Bool.false_and]

set_option maxHeartbeats 2000000 in
set_option maxRecDepth 100000 in
theorem hop_any (B : Nat) (v : Value) (l : List Int) (ma : Option Addr) (n mcap : Nat) (w : World) (h : RowB B w v l) (hl : l.length ≤ maxLen) (hn : n ≤ 2 ^ 63 - 1) :
    Calls Try.prog 80 #[v, .slice ma n mcap] w fun e w' => e = .returned (.bool (letB n l)) ∧ w = w' := by
  obtain ⟨a, cap, rfl⟩ := h.slice
  have HL := Lib.hid h
  have HPT := Lib.hid (fun (i : Int) (c : Bool) (hc : ptB i n = c) => pt_c ma n mcap i c hc w hn)
  clear h hn
  unfold maxLen at hl
  have HNO := Lib.hid (fun (k : Nat) (hk : k < l.length) (h : ¬ (0 ≤ l.getD k 0 ∧ l.getD k 0 ≤ (n : Int) - 1)) => letB_no (n := n) (l := l) (fun h' => h (h' k hk)))
  have HYES := Lib.hid (fun (h : LetTo n l l.length) => letB_yes h)
  generalize letB n l = R at *
  generalize hln : l.length = L at *
  have HLN := Lib.hid hln; clear hln
  go_enter Try.func80, Try.ntmps80
  go_wp2_with fail
  go_loop [9] (fun i => ∃ (k : Nat), k ≤ L ∧ i = .int .i64 k ∧ Hid (LetTo n l k)) (fun i => L - (intOf i).toNat)
  case atStart => exact ⟨0, Nat.zero_le _, rfl, Lib.hid (letTo_zero _ _)⟩
  case round =>
    obtain ⟨k, hk, rfl, hs⟩ := hrel
    by_cases hlt : k < L
    · obtain ⟨b, off, rfl, hb, hc⟩ := HL.out.getD hlt
      by_cases hin : 0 ≤ l.getD k 0 ∧ l.getD k 0 ≤ (n : Int) - 1
      · have HST := Lib.hid (letTo_step hs.out hin)
        have HC := Lib.hid (HPT.out _ true (ptB_yes hin))
        clear hin hs
        generalize l.getD k 0 = x at *
        go_wp2_with fail
        refine HC.out.mono ?_
        rintro e w' ⟨rfl, rfl⟩
        go_wp2_with fail
        exact ⟨⟨k + 1, by omega, by go_num, HST⟩, by simp [intOf]; omega⟩
      · have HBAD := Lib.hid (HNO.out k hlt hin)
        have HC := Lib.hid (HPT.out _ false (ptB_no hin))
        clear hin hs
        generalize l.getD k 0 = x at *
        go_wp2_with fail
        refine HC.out.mono ?_
        rintro e w' ⟨rfl, rfl⟩
        go_wp2_with fail
        go_ret
        exact ⟨ret_boolean HBAD.out.symm, rfl⟩
    · obtain rfl : k = L := by omega
      have HE := Lib.hid (HYES.out hs.out)
      clear HNO HYES hs
      go_wp2_with fail
      go_ret
      exact ⟨ret_boolean HE.out.symm, rfl⟩

set_option maxHeartbeats 2000000 in
set_option maxRecDepth 100000 in
theorem iswi_any (B B' : Nat) (v v' : Value) (m : List (List Int)) (l : List Int) (w : World) (h : MatB B w v m) (h' : RowB B' w v' l) (hf : RowsFit m) (hl : l.length ≤ maxLen) :
    Calls Try.prog 53 #[v, v'] w fun e w' => e = .returned (.bool (wordB m l)) ∧ ∃ q, w' = w.drewN q := by
  obtain ⟨a, cap, rfl⟩ := h.slice
  have HISC := Lib.hid (fun c (hc : isB m = c) => icm_0 B _ m c hc w h hf)
  have hml := hf.1
  unfold maxLen at hml
  have HOP := Lib.hid (fun q => hop_any B' v' l a m.length cap (w.drewN q) (h'.drewN q) hl (by omega))
  obtain ⟨a', cap', rfl⟩ := h'.slice
  rw [wordB_is]
  unfold maxLen at hl
  clear h h' hf
  generalize m.length = n at *
  generalize hln : l.length = L at *
  generalize letB n l = R at *
  have HLN := Lib.hid hln; clear hln
  generalize isB m = ib at *
  cases ib with
  | false =>
    go_enter Try.func53, Try.ntmps53
    go_wp2_with fail
    refine (HISC.out _ rfl).mono ?_
    rintro e w' ⟨rfl, q, rfl⟩
    go_wp2_with fail
    go_ret
    exact ⟨ret_boolean (by simp), q, rfl⟩
  | true =>
    by_cases h15 : L ≤ 15
    · have hd : decide ((L : Int) ≤ 15) = true := decide_eq_true (by omega)
      have hd2 : decide (L ≤ 15) = true := decide_eq_true h15
      have HD := Lib.hid hd2; clear hd2
      go_enter Try.func53, Try.ntmps53
      go_wp2_with fail
      refine (HISC.out _ rfl).mono ?_
      rintro e w' ⟨rfl, q, rfl⟩
      go_wp2_with fail
      refine (HOP.out q).mono ?_
      rintro e w' ⟨rfl, rfl⟩
      go_wp2_with fail
      go_ret
      exact ⟨ret_boolean (by rw [HD.out]; simp), q, rfl⟩
    · have hd : decide ((L : Int) ≤ 15) = false := decide_eq_false (by omega)
      have hd2 : decide (L ≤ 15) = false := decide_eq_false h15
      have HD := Lib.hid hd2; clear hd2
      go_enter Try.func53, Try.ntmps53
      go_wp2_with fail
      refine (HISC.out _ rfl).mono ?_
      rintro e w' ⟨rfl, q, rfl⟩
      go_wp2_with fail
      go_ret
      exact ⟨ret_boolean (by rw [HD.out]; simp), q, rfl⟩
end Go.Proofs.Ytfjeghalkmkgoaa
