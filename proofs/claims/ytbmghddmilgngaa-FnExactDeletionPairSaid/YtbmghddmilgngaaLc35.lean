/-
  Exchange and deletion: what the program's ExchangeIndex, DeleteAt and DeletionPair return.
  Exchange and deletion: what the model's ReduceByDeletion and ReplayDeletions return.
-/
import Derived.Test.YtbmghddmilgngaaLc34
import Derived.Test.YtbmghddmilgngaaLc28
import Derived.Test.YtbmghddmilgngaaLc15
namespace Go.Proofs.Ytbmghddmilgngaa
open Go.RowKit

set_option maxHeartbeats 4000000 in
set_option maxRecDepth 100000 in
theorem exi_e (v vw : Value) (m : List (List Int)) (ws : List Int) (i : Int) (w : World) (h : MatB w.heap.size w v m) (hr : RowB w.heap.size w vw ws) (hv : Roomy vw) (hf : RowsFit m) (hl : ws.length ≤ 1048576) :
    Calls Try.prog 11 #[v, vw, .int .i64 i] w fun e w' => e = .returned (.int .i64 (exI m ws i)) ∧ Below w.heap.size w w' := by
  have HX := Lib.hid h; have HW := Lib.hid hr
  clear h hr
  have HRD := Lib.hid (fun (wx : World) (hx : MatB wx.heap.size wx v m) (hy : RowB wx.heap.size wx vw ws) => show Calls Try.prog 32 #[v, vw] wx fun e w' => e = .returned (.bool (redB m ws)) ∧ Below wx.heap.size wx w' from isrdi_any _ _ v vw m ws wx hx hy (Nat.le_refl _) (Nat.le_refl _) hf hl)
  have HB := Lib.hid (Below.refl w.heap.size w)
  cases hred : redB m ws
  case false =>
    rw [exI_no (by rw [hred]; simp)]
    rw [hred] at HRD
    clear hred hf hl
    go_enter Try.func11, Try.ntmps11
    go_wp2_with fail
    refine (HRD.out _ HX.out HW.out).mono ?_
    rintro e w1 ⟨rfl, hb⟩
    replace HB := Lib.hid (HB.out.trans (hb.mono HB.out.size))
    clear hb
    go_wp2_with fail
    go_ret
    exact ⟨rfl, HB.out⟩
  case true =>
    have HLD := Lib.hid (fun (wx : World) (hx : MatB wx.heap.size wx v m) (hy : RowB wx.heap.size wx vw ws) => ldsi_any _ _ v vw m ws wx hx hy (Nat.le_refl _) (Nat.le_refl _) hf hl)
    have HHAS := Lib.hid (fun (z : Value) (wx : World) (hz : RowB wx.heap.size wx z (ldsL m ws)) => (scont_any _ z (ldsL m ws) i wx hz (by have := ldsL_len m ws; unfold maxLen; omega)).mono (R' := fun e w' => e = .returned (.bool (decide (i ∈ ldsL m ws))) ∧ Below wx.heap.size wx w') fun e w' ⟨h1, h2⟩ => ⟨h1, by rw [← h2]; exact Below.refl _ _⟩)
    rw [hred] at HRD
    by_cases hi : i ∈ ldsL m ws
    case neg =>
      rw [exI_no (fun hc => hi hc.2)]
      rw [decide_eq_false hi] at HHAS
      clear hred hi hf hl
      generalize ldsL m ws = dl at *
      go_enter Try.func11, Try.ntmps11
      go_wp2_with fail
      refine (HRD.out _ HX.out HW.out).mono ?_
      rintro e w1 ⟨rfl, hb⟩
      replace HX := Lib.hid (HX.out.upE hb); replace HW := Lib.hid (HW.out.upE hb)
      replace HB := Lib.hid (HB.out.trans (hb.mono HB.out.size))
      clear hb
      go_wp2_with fail
      refine (HLD.out _ HX.out HW.out).mono ?_
      rintro e w2 ⟨z, rfl, hz, hb⟩
      have HZ := Lib.hid hz.1.rowB
      replace HB := Lib.hid (HB.out.trans (hb.mono HB.out.size))
      clear hb hz
      go_wp2_with fail
      refine (HHAS.out z _ HZ.out).mono ?_
      rintro e w3 ⟨rfl, hb⟩
      replace HB := Lib.hid (HB.out.trans (hb.mono HB.out.size))
      clear hb
      go_wp2_with fail
      go_ret
      exact ⟨rfl, HB.out⟩
    case pos =>
      obtain ⟨hW, _⟩ := red_is hred
      obtain ⟨t, hti, ht, _⟩ := lds_letter hW hi
      rw [exI_xi ⟨hred, hi⟩]
      rw [decide_eq_true hi] at HHAS
      have HXI := Lib.hid (fun (wx : World) (hx : MatB wx.heap.size wx v m) (hy : RowB wx.heap.size wx vw ws) => xi_e vw v m ws i wx hx hy hv hf (by rw [hti]; exact wd_front hW ht))
      clear hred hi hf hl hW hti ht hv
      generalize xiI m ws i = R at *
      generalize ldsL m ws = dl at *
      go_enter Try.func11, Try.ntmps11
      go_wp2_with fail
      refine (HRD.out _ HX.out HW.out).mono ?_
      rintro e w1 ⟨rfl, hb⟩
      replace HX := Lib.hid (HX.out.upE hb); replace HW := Lib.hid (HW.out.upE hb)
      replace HB := Lib.hid (HB.out.trans (hb.mono HB.out.size))
      clear hb
      go_wp2_with fail
      refine (HLD.out _ HX.out HW.out).mono ?_
      rintro e w2 ⟨z, rfl, hz, hb⟩
      replace HX := Lib.hid (HX.out.upE hb); replace HW := Lib.hid (HW.out.upE hb)
      have HZ := Lib.hid hz.1.rowB
      replace HB := Lib.hid (HB.out.trans (hb.mono HB.out.size))
      clear hb hz
      go_wp2_with fail
      refine (HHAS.out z _ HZ.out).mono ?_
      rintro e w3 ⟨rfl, hb⟩
      replace HX := Lib.hid (HX.out.upE hb); replace HW := Lib.hid (HW.out.upE hb)
      replace HB := Lib.hid (HB.out.trans (hb.mono HB.out.size))
      clear hb HZ HHAS HLD HRD
      go_wp2_with fail
      refine (HXI.out _ HX.out HW.out).mono ?_
      rintro e w4 ⟨rfl, hb⟩
      replace HB := Lib.hid (HB.out.trans (hb.mono HB.out.size))
      clear hb
      go_wp2_with fail
      go_ret
      exact ⟨rfl, HB.out⟩
set_option maxHeartbeats 1000000 in
set_option maxRecDepth 100000 in
theorem deli_e (v : Value) (l : List Int) (x : Int) (w : World) (h : RowB w.heap.size w v l) (hv : Roomy v) (hl : l.length ≤ 1048576) :
    Calls Try.prog 17 #[v, .int .i64 x] w (MakesS w (delL l x)) := by
  have HB := Lib.hid (Below.refl w.heap.size w)
  have HCL := Lib.hid (fun (M : List Int) (z : Value) (wx : World) (hM : M.length ≤ 1048576) (hz : RowB wx.heap.size wx z M) => clone_any _ z M wx hz (Nat.le_refl _) hM)
  by_cases h0 : 0 ≤ x
  · by_cases h1 : x < (l.length : Int)
    · obtain ⟨k, rfl⟩ : ∃ k : Nat, x = (k : Int) := ⟨x.toNat, by omega⟩
      have hk : k < l.length := by omega
      rw [delL_nat hk]
      have HWO := Lib.hid (wo_e v l k w h hv hk hl)
      have HL := Lib.hid (show (l.eraseIdx k).length ≤ 1048576 from Nat.le_trans (List.length_eraseIdx_le _ _) hl)
      have d1 : decide ((0 : Int) ≤ (k : Int)) = true := decide_eq_true h0
      have d2 : decide ((k : Int) < (l.length : Int)) = true := decide_eq_true h1
      obtain ⟨a, cap, rfl⟩ := h.slice
      clear h hv hl h0
      generalize l.eraseIdx k = M at *
      generalize l.length = n at *
      go_enter Try.func17, Try.ntmps17
      go_wp2_with fail
      refine HWO.out.mono ?_
      rintro e w1 ⟨z, rfl, hz, _, hb⟩
      replace HB := Lib.hid hb
      have HC := Lib.hid (HCL.out M z w1 HL.out hz)
      clear hz hb HWO HCL
      go_wp2_with fail
      refine HC.out.mono ?_
      rintro e w2 ⟨y, rfl, hy, hb⟩
      have HY := Lib.hid (hy.1.mono HB.out.size (Nat.le_refl _))
      replace HB := Lib.hid (HB.out.trans (hb.mono HB.out.size))
      clear hy hb HC
      go_wp2_with fail
      go_ret
      exact ⟨_, rfl, ⟨HY.out, Nat.le_refl _⟩, HB.out⟩
    · rw [delL_out (by omega)]
      have HC := Lib.hid (HCL.out l v w hl h)
      have d1 : decide ((0 : Int) ≤ x) = true := decide_eq_true h0
      have d2 : decide (x < (l.length : Int)) = false := decide_eq_false h1
      obtain ⟨a, cap, rfl⟩ := h.slice
      clear h hv hl h0 HCL h1
      generalize l.length = n at *
      go_enter Try.func17, Try.ntmps17
      go_wp2_with fail
      refine HC.out.mono ?_
      rintro e w2 ⟨y, rfl, hy, hb⟩
      have HY := Lib.hid hy.1
      replace HB := Lib.hid hb
      clear hy hb HC
      go_wp2_with fail
      go_ret
      exact ⟨_, rfl, ⟨HY.out, Nat.le_refl _⟩, HB.out⟩
  · rw [delL_out (by omega)]
    have HC := Lib.hid (HCL.out l v w hl h)
    have d1 : decide ((0 : Int) ≤ x) = false := decide_eq_false h0
    obtain ⟨a, cap, rfl⟩ := h.slice
    clear h hv hl h0 HCL
    generalize l.length = n at *
    go_enter Try.func17, Try.ntmps17
    go_wp2_with fail
    refine HC.out.mono ?_
    rintro e w2 ⟨y, rfl, hy, hb⟩
    have HY := Lib.hid hy.1
    replace HB := Lib.hid hb
    clear hy hb HC
    go_wp2_with fail
    go_ret
    exact ⟨_, rfl, ⟨HY.out, Nat.le_refl _⟩, HB.out⟩
theorem RowB.behind {B n cap k : Nat} {w : World} {wa : Option Addr} {ws : List Int} (h : RowB B w (.slice wa n cap) ws) (hk : k < n) (hcap : n ≤ cap) :
    ∃ b off, ∃ A : Addr, wa = some ⟨b, off, none⟩ ∧ w.cell? ⟨b, off + k, none⟩ = some (.int .i64 (ws.getD k 0)) ∧ (if cap = k + 1 then some (⟨b, off, none⟩ : Addr) else some ⟨b, off + (k + 1), none⟩) = some A ∧ RowB B w (.slice (some A) (n - (k + 1)) (cap - (k + 1))) (ws.drop (k + 1)) := by
  rcases h with ⟨_, a, c, e⟩ | ⟨b, off, c, e, hb, hc⟩
  · injection e with e1 e2 e3; omega
  · injection e with e1 e2 e3
    subst e1; subst e2; subst e3
    obtain ⟨A, hA, _, hT⟩ := RowB.tail hb hc hk hcap
    exact ⟨b, off, A, rfl, by rw [hc k hk]; simp [List.getD, hk], hA, hT⟩
set_option maxHeartbeats 4000000 in
set_option maxRecDepth 100000 in
theorem dpi_e (v vw : Value) (m : List (List Int)) (ws : List Int) (w : World) (h : MatB w.heap.size w v m) (hr : RowB w.heap.size w vw ws) (hv : Roomy vw) (hf : RowsFit m) (hl : ws.length ≤ 1048576) :
    Calls Try.prog 21 #[v, vw] w fun e w' => e = .returned (.tuple #[.int .i64 (dlI m ws), .int .i64 (dlJ m ws), .bool (dlB m ws)]) ∧ Below w.heap.size w w' := by
  have HX := Lib.hid h; have HW := Lib.hid hr
  clear h hr
  have HIW := Lib.hid (fun (wx : World) (hx : MatB wx.heap.size wx v m) (hy : RowB wx.heap.size wx vw ws) => iswi_e v vw m ws wx hx hy hf hl)
  have HB := Lib.hid (Below.refl w.heap.size w)
  by_cases hW : IsW m ws
  case neg =>
    obtain ⟨e1, e2, e3⟩ := dp_no hW
    rw [e1, e2, e3]
    rw [wordB_no hW] at HIW
    clear hW hf hl e1 e2 e3
    go_enter Try.func21, Try.ntmps21
    go_wp2_with fail
    refine (HIW.out _ HX.out HW.out).mono ?_
    rintro e w1 ⟨rfl, hb⟩
    replace HB := Lib.hid (HB.out.trans (hb.mono HB.out.size))
    clear hb
    go_wp2_with fail
    go_ret3
    exact ⟨rfl, HB.out⟩
  case pos =>
    rw [wordB_yes hW] at HIW
    have h15 := hW.2.2
    have HXI := Lib.hid (fun (k : Nat) (hk : k < ws.length) (z : Value) (wx : World) (hx : MatB wx.heap.size wx v m) (hz : RowB wx.heap.size wx z (ws.drop (k + 1))) (hvz : Roomy z) => xi_e z v m (ws.drop (k + 1)) (ws.getD k 0) wx hx hz hvz hf (wd_tail hW hk).2)
    have HHIT := Lib.hid (fun (i k : Nat) (hi : i < ws.length) (hr : ∀ x, x < i → ∀ y, x < y → y < ws.length → dlQ m ws x y = false) (hk : k < (ws.drop (i + 1)).length) (h2 : exP m (ws.drop (i + 1)) (ws.getD i 0) k = true) (h1 : ∀ j, j < k → exP m (ws.drop (i + 1)) (ws.getD i 0) j = false) => dp_hit hW hi hr hk h2 h1)
    have HMISS := Lib.hid (fun (i : Nat) (hi : i < ws.length) (hr : ∀ x, x < i → ∀ y, x < y → y < ws.length → dlQ m ws x y = false) (h1 : ∀ j, j < (ws.drop (i + 1)).length → exP m (ws.drop (i + 1)) (ws.getD i 0) j = false) => dp_miss hW hi hr h1)
    have HEND := Lib.hid (fun (hr : ∀ x, x < ws.length → ∀ y, x < y → y < ws.length → dlQ m ws x y = false) => dp_end hr)
    have HDL := Lib.hid (fun (k : Nat) => show (ws.drop (k + 1)).length = ws.length - (k + 1) from List.length_drop)
    have HV := Lib.hid hv
    obtain ⟨wa, wcap, rfl⟩ := HW.out.slice
    have hcap := hv.le
    clear hW hf hl hv
    generalize dlI m ws = RI at *
    generalize dlJ m ws = RJ at *
    generalize dlB m ws = RB at *
    generalize hn : ws.length = n at *
    have HNL := Lib.hid hn; clear hn
    go_enter Try.func21, Try.ntmps21
    go_wp2_with fail
    refine (HIW.out _ HX.out HW.out).mono ?_
    rintro e w1 ⟨rfl, hb⟩
    replace HX := Lib.hid (HX.out.upE hb); replace HW := Lib.hid (HW.out.upE hb)
    replace HB := Lib.hid (HB.out.trans (hb.mono HB.out.size))
    clear hb HIW
    go_wp2_with fail
    go_loopw [17] (fun o wr => ∃ (i : Nat) (wq : World), wq = wr ∧ i ≤ n ∧ o = .int .i64 i ∧ Hid (∀ x, x < i → ∀ y, x < y → y < n → dlQ m ws x y = false) ∧ MatB wq.heap.size wq v m ∧ RowB wq.heap.size wq (.slice wa n wcap) ws ∧ Below w.heap.size w wq) (fun o _ => n - (RowKit.intOf o).toNat)
    case atStart => exact ⟨0, _, rfl, Nat.zero_le _, rfl, Lib.hid (fun x hx => absurd hx (Nat.not_lt_zero _)), HX.out, HW.out, HB.out⟩
    case round =>
      obtain ⟨i, wq, rfl, hi, rfl, hp, hx, hy, hb⟩ := hrel
      clear HX HW HB
      have HX := Lib.hid hx; have HW := Lib.hid hy; have HB := Lib.hid hb
      clear hx hb
      by_cases hlt : i < n
      · have hd : decide ((i : Int) < (n : Int)) = true := decide_eq_true (by omega)
        have hdn : decide (i < n) = true := decide_eq_true hlt
        have hXI := HXI.out i hlt
        have hcs := xiI_cases m (ws.drop (i + 1)) (ws.getD i 0)
        have HMS := Lib.hid (HMISS.out i hlt hp.out)
        have HHT := Lib.hid (fun (k : Nat) => HHIT.out i k hlt hp.out)
        obtain ⟨b, off, A, rfl, hc0, hA, hT⟩ := hy.behind hlt hcap
        have HT := Lib.hid hT
        have HVT := Lib.hid (show Roomy (.slice (some A) (n - (i + 1)) (wcap - (i + 1))) from ⟨_, _, _, rfl, by omega⟩)
        have hwr : IntKind.i64.wrap ((i : Int) + 1) = (i : Int) + 1 := by rw [IntKind.wrap_i64]; omega
        have hp0 : (0 : Int) ≤ (i : Int) + 1 := by omega
        have hp1 : (i : Int) + 1 ≤ (n : Int) := by omega
        have hp2 : ((i : Int) + 1).toNat = i + 1 := by omega
        have HHX := Lib.hid hXI; have HCS := Lib.hid hcs
        clear hXI hcs hT hy
        generalize ws.getD i 0 = y at *
        have hdl := HDL.out i
        go_wp2_with fail
        have HC := Lib.hid (HHX.out (.slice (some A) (n - (i + 1)) (wcap - (i + 1))) wq HX.out HT.out HVT.out)
        rcases HCS.out with ⟨k, hk, e, h2, h1⟩ | ⟨e, h1⟩
        · rw [e] at HC
          have hR := HHT.out k hk h2 h1
          rw [hdl] at hk
          have hge : decide ((0 : Int) ≤ (k : Int)) = true := decide_eq_true (by omega)
          have hs : (i : Int) + 1 + (k : Int) = ((i + 1 + k : Nat) : Int) := by omega
          have hw2 : IntKind.i64.wrap ((i : Int) + 1 + (k : Int)) = (i : Int) + 1 + (k : Int) := by rw [IntKind.wrap_i64]; omega
          rw [← hs] at hR
          have HR := Lib.hid hR
          clear hR e h2 h1 hs HCS HHT HMS HHX hdl
          refine HC.out.mono ?_
          rintro e w4 ⟨rfl, hb⟩
          replace HB := Lib.hid (HB.out.trans (hb.mono HB.out.size))
          clear hb HC
          go_wp2_with fail
          go_ret3
          exact ⟨by rw [HR.out.1, HR.out.2.1, HR.out.2.2]; rfl, HB.out⟩
        · rw [e] at HC
          have HN := Lib.hid (HMS.out h1)
          clear e h1 HCS HHT HMS HHX hdl
          refine HC.out.mono ?_
          rintro e w4 ⟨rfl, hb⟩
          replace HX := Lib.hid (HX.out.upE hb); replace HW := Lib.hid (HW.out.upE hb)
          replace HB := Lib.hid (HB.out.trans (hb.mono HB.out.size))
          clear hb HC HT HVT
          go_wp2_with fail
          exact ⟨⟨i + 1, _, rfl, by omega, by go_num, HN, HX.out, HW.out, HB.out⟩, by simp [RowKit.intOf]; omega⟩
      · obtain rfl : i = n := by omega
        have hd : decide ((i : Int) < (i : Int)) = false := by simp
        obtain ⟨e1, e2, e3⟩ := HEND.out hp.out
        have HR := Lib.hid (And.intro e1 (And.intro e2 e3))
        clear e1 e2 e3
        go_wp2_with fail
        go_ret3
        exact ⟨by rw [HR.out.1, HR.out.2.1, HR.out.2.2]; rfl, HB.out⟩
end Go.Proofs.Ytbmghddmilgngaa
namespace Go.Proofs.Ytbmghddmilgngaa
open Go.RowKit

set_option maxRecDepth 100000 in
/-- append(row, p, q): where the new row lies, and what else is kept. -/
theorem append_int2P {ops : Array Oper} {rest : List Oper} {o : Oper} {a : Act} {Q : Exit → Act → World → Prop} {s x : Operand} {A g0 : Nat} {v : Value} {l : List Int} {wr : World}
    (hM : RowI A wr.heap.size wr v l) (hA : A ≤ wr.heap.size) (hq : g0 = wr.heap.size) (n1 n2 : Int) (hgd : o.guard = none)
    (ho : o.op = .call { callee := .builtin .append, args := #[s, x], argTypes := #[25, 25] }) (hs : a.eval s = v)
    (hx : a.eval x = .slice (some ⟨g0, 0, none⟩) 2 2) (hlen : l.length ≤ 4194304)
    (h : ∀ v' w', RowI A w'.heap.size w' v' (l ++ [n1, n2]) → wr.grownBy w' v.ownBlock → (∀ g, v'.ownBlock = some g → v.ownBlock = some g ∨ wr.heap.size ≤ g) → wpList Try.prog ops Q rest (a.put o.dst v') w') :
    wpList Try.prog ops Q (o :: rest) a (wr.alloc (.cells #[.int .i64 n1, .int .i64 n2] 3)) := by
  subst hq
  obtain ⟨h1, h2⟩ := hM
  obtain ⟨i0, hi, hz0, hz1, hz2⟩ := info_parts Try.infoInt
  have hb := (MapKept.heap_alloc wr (.cells #[Value.int .i64 n1, .int .i64 n2] 3)).1
  have hnew : ∀ j u, [Value.int .i64 n1, .int .i64 n2][j]? = some u → (wr.alloc (.cells #[.int .i64 n1, .int .i64 n2] 3)).cell? ((⟨wr.heap.size, 0, none⟩ : Addr).add j) = some u := by
    intro j u hu
    rw [Addr.add_lit, Nat.zero_add, cell_of_row _ wr.heap.size j _ _ _ hb]
    simpa using hu
  have hone : ∀ u ∈ [Value.int .i64 n1, .int .i64 n2], u.oneCell' = true := by
    intro u hu
    simp at hu
    rcases hu with rfl | rfl <;> rfl
  refine wpList_append_own_at _ hgd s x 25 ho A 3 i0 (.int .i64 0) 1 8 Try.underlying25 hi hz0 hz1 hz2 rfl (by omega) v l.length (intsV l) hs (h1.alloc _) ⟨wr.heap.size, 0, none⟩ 2 2 [.int .i64 n1, .int .i64 n2] hx rfl hnew hone (by unfold maxLen; omega) (by omega) (by simp; omega) fun v' w' h3 h4 _ h5 => h v' w' ⟨?_, fun g hgg => (h3.lt g hgg).2⟩ ⟨h4.os, h4.tape, h4.output, by have := h4.size; simp at this; omega, fun k hk hn => ?_⟩ fun g hg => ?_
  · have e : intsV l ++ [.int .i64 n1, .int .i64 n2] = intsV (l ++ [n1, n2]) := by simp [intsV]
    rw [e] at h3
    rw [List.length_append]
    exact h3
  · rw [h4.block k (by simp; omega) hn]
    exact (MapKept.heap_alloc wr _).2 k hk
  · rcases h5 with h5 | h5
    · left; rw [← h5]; exact hg
    · right
      rw [h5] at hg
      have := Option.some.inj hg
      simp at this
      omega
/-- Two lists of ints in memory of the call's own, apart from each other. -/
def MakesSS (w : World) (l1 l2 : List Int) (e : Ending) (w' : World) : Prop :=
  ∃ x y, e = .returned (.tuple #[x, y]) ∧ OwnS w.heap.size w'.heap.size w' x l1 ∧ OwnS w.heap.size w'.heap.size w' y l2 ∧ (x.ownBlock = none ∨ x.ownBlock ≠ y.ownBlock) ∧ Below w.heap.size w w'
theorem apart_of {A C : Nat} {w : World} {B : Nat} {x o : Value} {X : List Int} (hx : RowI A B w x X) (ho : ∀ g, o.ownBlock = some g → g < C) (hC : C ≤ A) : x.ownBlock = none ∨ x.ownBlock ≠ o.ownBlock := by
  cases hv : x.ownBlock with
  | none => exact .inl rfl
  | some g => exact .inr fun e => by have h1 := (hx.1.lt g hv).1; have h2 := ho g e.symm; omega
theorem apart_put {x o o' : Value} {C : Nat} (h : x.ownBlock = none ∨ x.ownBlock ≠ o.ownBlock) (hx : ∀ g, x.ownBlock = some g → g < C) (ho : ∀ g, o'.ownBlock = some g → o.ownBlock = some g ∨ C ≤ g) : x.ownBlock = none ∨ x.ownBlock ≠ o'.ownBlock := by
  rcases h with h | h
  · exact .inl h
  · cases hv : x.ownBlock with
    | none => exact .inl rfl
    | some g =>
      refine .inr fun e => ?_
      rcases ho g e.symm with h1 | h1
      · exact h (by rw [hv, h1])
      · have := hx g hv; omega
theorem rdS_none {m : List (List Int)} {k : Nat} {X O : List Int} (h : dlB m X = false) : rdS m k X O = (X, O) := by
  cases k with
  | zero => rfl
  | succ k =>
    unfold rdS
    unfold dlB at h
    cases hp : dlP m X with
    | none => rfl
    | some p => rw [hp] at h; cases h
theorem rdS_some {m : List (List Int)} {k : Nat} {X O : List Int} (h : dlB m X = true) : ∃ a b : Nat, dlI m X = (a : Int) ∧ dlJ m X = (b : Int) ∧ rdS m (k + 1) X O = rdS m k (delL (delL X (b : Int)) (a : Int)) (O ++ [(a : Int), (b : Int)]) := by
  unfold dlB at h
  cases hp : dlP m X with
  | none => rw [hp] at h; cases h
  | some p =>
    refine ⟨p.1, p.2, by unfold dlI; rw [hp], by unfold dlJ; rw [hp], ?_⟩
    conv => lhs; unfold rdS
    rw [hp]
set_option maxHeartbeats 4000000 in
set_option maxRecDepth 100000 in
theorem rbds_e (v vw : Value) (m : List (List Int)) (ws : List Int) (w : World) (h : MatB w.heap.size w v m) (hr : RowB w.heap.size w vw ws) (hf : RowsFit m) (hl : ws.length ≤ 1048576) :
    Calls Try.prog 26 #[v, vw] w (MakesSS w (rdS m 15 ws []).1 (rdS m 15 ws []).2) := by
  have hb0 : Below w.heap.size w (w.alloc (.cells #[] 3)) := (Below.refl _ _).alloc (Nat.le_refl _) _
  have hs0 : w.heap.size ≤ (w.alloc (.cells #[] 3)).heap.size := by simp
  have HX := Lib.hid h; have HW := Lib.hid (hr.upE hb0)
  have HWL := Lib.hid (show ([] : List Int).length + ws.length ≤ 4194304 by simp; omega)
  clear h hr
  have HDP := Lib.hid (fun (X : List Int) (hX : X.length ≤ ws.length) (x : Value) (wx : World) (hx : MatB wx.heap.size wx v m) (hy : RowB wx.heap.size wx x X) => dps_e v x m X wx hx hy hf (by omega))
  have HD1 := Lib.hid (fun (X : List Int) (hX : X.length ≤ ws.length) (j : Nat) (x : Value) (wx : World) (hy : RowB wx.heap.size wx x X) => dels_e x X (j : Int) wx hy (by omega))
  have HLE := Lib.hid (fun (X : List Int) (j : Int) => delL_le X j)
  have HN := Lib.hid (fun (k : Nat) (X O : List Int) (h : dlB m X = false) => rdS_none (k := k) (O := O) h)
  have HS := Lib.hid (fun (k : Nat) (X O : List Int) (h : dlB m X = true) => rdS_some (k := k) (O := O) h)
  have HZ := Lib.hid (fun (X O : List Int) => show rdS m 0 X O = (X, O) from rfl)
  obtain ⟨T, hT⟩ : ∃ T, rdS m 15 ws [] = T := ⟨_, rfl⟩
  rw [hT]
  have HT0 := Lib.hid hT
  have HB := Lib.hid hb0
  generalize hn : ws.length = n at *
  have HNL := Lib.hid hn; clear hn hT
  go_enter Try.func26, Try.ntmps26
  go_wp2_with (at_builtin; go_must (refine append_intsA (row_empty w) hs0 HW.out (by rw [HNL.out]; exact HWL.out) rfl rfl rfl rfl ?_))
  intro v3 w3 hr3 hb3 hz3
  have hr3 : RowI w.heap.size w3.heap.size w3 v3 ws := by simpa using hr3
  have hb3' := hb3 w w.heap.size (Nat.le_refl _) hb0
  clear hb3 hz3
  have hbe : Below w3.heap.size w3 (w3.alloc (.cells #[] 3)) := (Below.refl _ _).alloc (Nat.le_refl _) _
  have HR3 := Lib.hid (hr3.step hbe)
  replace HB := Lib.hid (hb3'.trans (hbe.mono hb3'.size))
  have HO3 := Lib.hid ((row_empty w3).mono hb3'.size (Nat.le_refl _))
  have HNE := Lib.hid (show v3.ownBlock = none ∨ v3.ownBlock ≠ (Value.slice (some ⟨w3.heap.size, 0, none⟩) 0 0).ownBlock from .inr fun e => by
    have h1 := hr3.2 w3.heap.size (by rw [e]; rfl)
    omega)
  have HXL := Lib.hid (show ws.length ≤ n from Nat.le_of_eq HNL.out)
  clear hr3 hbe hb3' hs0 hb0 HW HWL
  go_wp2_with fail
  go_loopw [6, 7, 8] (fun x o k wr => ∃ (t : Nat) (X O : List Int) (wq : World), wq = wr ∧ t ≤ 15 ∧ k = .int .i64 t ∧ Hid (X.length ≤ n) ∧ Hid (O.length ≤ 2 * t) ∧ Hid (rdS m (15 - t) X O = T) ∧ RowI w.heap.size wq.heap.size wq x X ∧ RowI w.heap.size wq.heap.size wq o O ∧ (x.ownBlock = none ∨ x.ownBlock ≠ o.ownBlock) ∧ Below w.heap.size w wq) (fun _ _ k _ => 15 - (RowKit.intOf k).toNat)
  case atStart => exact ⟨0, ws, [], _, rfl, by omega, rfl, HXL, Lib.hid (by simp), HT0, HR3.out, HO3.out, HNE.out, HB.out⟩
  case round =>
    obtain ⟨t, X, O, wq, rfl, ht, rfl, HXL, HOL, HTT, hR, hO, hA, hb⟩ := hrel
    clear HR3 HO3 HNE HB
    have HR := Lib.hid hR; have HO := Lib.hid hO; have HAP := Lib.hid hA; have HB := Lib.hid hb
    have hsq := hb.size
    clear hR hO hA hb
    by_cases hlt : t < 15
    · have hd : decide ((t : Int) < 15) = true := decide_eq_true (by omega)
      have HC := Lib.hid (HDP.out X HXL.out _ wq ((HX.out.below HB.out (Nat.le_refl _)).mono HB.out.size) HR.out.rowB)
      cases hdl : dlB m X
      · have HV := Lib.hid ((HN.out (15 - t) X O hdl).symm.trans HTT.out)
        rw [hdl] at HC
        clear hdl
        go_wp2_with fail
        refine HC.out.mono ?_
        rintro e w4 ⟨rfl, hb⟩
        replace HR := Lib.hid (HR.out.step hb); replace HO := Lib.hid (HO.out.step hb)
        replace HB := Lib.hid (HB.out.trans (hb.mono HB.out.size))
        clear hb HC
        go_wp2_with fail
        go_ret2
        exact ⟨_, _, rfl, ⟨by rw [← HV.out]; exact HR.out, Nat.le_refl _⟩, ⟨by rw [← HV.out]; exact HO.out, Nat.le_refl _⟩, HAP.out, HB.out⟩
      · obtain ⟨a, b, e1, e2, e3⟩ := HS.out (14 - t) X O hdl
        rw [hdl, e1, e2] at HC
        have hT2 := HTT.out
        rw [show 15 - t = 14 - t + 1 by omega, e3] at hT2
        have HT2 := Lib.hid (show rdS m (15 - (t + 1)) (delL (delL X (b : Int)) (a : Int)) (O ++ [(a : Int), (b : Int)]) = T by rw [show 15 - (t + 1) = 14 - t by omega]; exact hT2)
        have hx1 : (delL X (b : Int)).length ≤ n := Nat.le_trans (HLE.out X (b : Int)) HXL.out
        have HXL1 := Lib.hid hx1
        have HXL2 := Lib.hid (Nat.le_trans (HLE.out (delL X (b : Int)) (a : Int)) hx1)
        have HOL2 := Lib.hid (show (O ++ [(a : Int), (b : Int)]).length ≤ 2 * (t + 1) by rw [List.length_append]; have := HOL.out; have h2 : [(a : Int), (b : Int)].length = 2 := rfl; omega)
        have HO4 := Lib.hid (show O.length ≤ 4194304 by have := HOL.out; omega)
        clear hdl e1 e2 e3 hT2 hx1 HTT
        go_wp2_with fail
        refine HC.out.mono ?_
        rintro e w4 ⟨rfl, hb⟩
        replace HR := Lib.hid (HR.out.step hb); replace HO := Lib.hid (HO.out.step hb)
        replace HB := Lib.hid (HB.out.trans (hb.mono HB.out.size))
        clear hb HC
        go_wp2_with fail
        refine (HD1.out X HXL.out b _ w4 HR.out.rowB).mono ?_
        rintro e w5 ⟨z, rfl, hz, hb⟩
        replace HO := Lib.hid (HO.out.step hb)
        replace HB := Lib.hid (HB.out.trans (hb.mono HB.out.size))
        have HZ := Lib.hid hz.1.rowB
        clear hb hz HR
        go_wp2_with fail
        refine (HD1.out (delL X (b : Int)) HXL1.out a z w5 HZ.out).mono ?_
        rintro e w6 ⟨x2, rfl, hz, hb⟩
        have HA6 := Lib.hid (apart_of hz.1 HO.out.2 (Nat.le_refl _))
        replace HO := Lib.hid (HO.out.step hb)
        have hs5 := HB.out.size
        have HR := Lib.hid (hz.1.mono hs5 (Nat.le_refl _))
        replace HB := Lib.hid (HB.out.trans (hb.mono HB.out.size))
        clear hb hz HZ hs5
        have hs6 := HB.out.size
        go_wp2_with (at_builtin; go_must (refine append_int2P HO.out hs6 rfl (a : Int) (b : Int) rfl rfl rfl rfl HO4.out ?_; intro v8 w8 hr8 hg8 hl8))
        have HR8 := Lib.hid ((HR.out.kept hg8 HA6.out).mono (Nat.le_refl _) hg8.size)
        have HO8 := Lib.hid hr8
        have HA8 := Lib.hid (apart_put HA6.out HR.out.2 hl8)
        have HB8 := Lib.hid (HB.out.grown hg8 hs6 (fun j hj => (HO.out.1.lt j hj).1))
        clear hr8 hg8 hl8
        go_wp2_with fail
        exact ⟨⟨t + 1, _, _, _, rfl, by omega, by go_num, HXL2, HOL2, HT2, HR8.out, HO8.out, HA8.out, HB8.out⟩, by simp [RowKit.intOf]; omega⟩
    · obtain rfl : t = 15 := by omega
      have hd : decide ((15 : Int) < 15) = false := by simp
      have HV := Lib.hid ((HZ.out X O).symm.trans HTT.out)
      go_wp2_with fail
      go_ret2
      exact ⟨_, _, rfl, ⟨by rw [← HV.out]; exact HR.out, Nat.le_refl _⟩, ⟨by rw [← HV.out]; exact HO.out, Nat.le_refl _⟩, HAP.out, HB.out⟩
theorem rpS_two {X l : List Int} {k : Nat} (h : k + 1 < l.length) : rpS X (l.drop k) = if l.getD k 0 < 0 ∨ l.getD (k + 1) 0 ≤ l.getD k 0 ∨ (X.length : Int) ≤ l.getD (k + 1) 0 then none else rpS (delL (delL X (l.getD (k + 1) 0)) (l.getD k 0)) (l.drop (k + 2)) := by
  have e1 : l.getD k 0 = l[k] := by simp [List.getD, show k < l.length by omega]
  have e2 : l.getD (k + 1) 0 = l[k + 1] := by simp [List.getD, h]
  rw [List.drop_eq_getElem_cons (by omega), List.drop_eq_getElem_cons h, e1, e2]
  conv => lhs; unfold rpS
theorem rpS_few {X l : List Int} {k : Nat} (h : ¬ k + 1 < l.length) : rpS X (l.drop k) = some X := by
  have hl : (l.drop k).length ≤ 1 := by rw [List.length_drop]; omega
  match hd : l.drop k, hl with
  | [], _ => rfl
  | [a], _ => rfl
  | a :: b :: r, hl => simp at hl
theorem rp_none {ws l : List Int} (h : rpS ws l = none) : rpL ws l = ws ∧ rpB ws l = false := by
  unfold rpL rpB; rw [h]; exact ⟨rfl, rfl⟩
theorem rp_some {ws l X : List Int} (h : rpS ws l = some X) : rpL ws l = X ∧ rpB ws l = decide (l.length % 2 = 0) := by
  unfold rpL rpB; rw [h]; exact ⟨rfl, by simp⟩
end Go.Proofs.Ytbmghddmilgngaa
