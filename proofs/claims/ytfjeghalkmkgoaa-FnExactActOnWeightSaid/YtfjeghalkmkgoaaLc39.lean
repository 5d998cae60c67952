/-
  Roots: what the model's ReflectRoot and ActOnRoot return.
  A law that takes a list of ints: what the argument reads as.
  The last step of every law (over any program): a call that only made new memory and answered true leaves its arguments reading as they read.
  Two closed facts of this seat's program.
-/
import Derived.Test.YtfjeghalkmkgoaaLc38
import Derived.Test.YtfjeghalkmkgoaaLc12
import Derived.Test.YtfjeghalkmkgoaaLc09
import Derived.ProofKit
import Derived.Test.YtfjeghalkmkgoaaLc01
import Derived.Test.YtfjeghalkmkgoaaRows
namespace Go.Proofs.Ytfjeghalkmkgoaa
open Go.RowKit

set_option maxHeartbeats 4000000 in
set_option maxRecDepth 100000 in
theorem actrs_any (B B' B'' : Nat) (v v' v'' : Value) (m : List (List Int)) (ws l : List Int) (w : World) (h : MatB B w v m) (h' : RowB B' w v' ws) (h'' : RowB B'' w v'' l) (hB : B ≤ w.heap.size) (hB' : B' ≤ w.heap.size) (hB'' : B'' ≤ w.heap.size) (hf : RowsFit m) (hw : ws.length ≤ 1048576) (hl : l.length ≤ 1048576) :
    Calls Try.prog 40 #[v, v', v''] w (MakesS w (actR m ws l)) := by
  have hb0 : Below w.heap.size w (w.alloc (.cells #[] 3)) := (Below.refl _ _).alloc (Nat.le_refl _) _
  have HIW := Lib.hid (fun (wx : World) (hb : Below w.heap.size w wx) => isws_any B B' v v' m ws wx (h.below hb hB) (h'.below hb hB') hf (by unfold maxLen; omega))
  have HRF := Lib.hid (fun (k : Nat) (lx : List Int) (x : Value) (wx : World) (hb : Below w.heap.size w wx) (hx : RowI w.heap.size wx.heap.size wx x lx) (hI : IsC m) (hll : lx.length = m.length) (hk : k < m.length) => l7r_any B wx.heap.size v x m lx k wx (h.below hb hB) hx.rowB (Nat.le_trans hB hb.size) (Nat.le_refl _) hI hll hk)
  have HL := Lib.hid (h''.below hb0 hB'')
  have HB0 := Lib.hid hb0
  have hs0 : w.heap.size ≤ (w.alloc (.cells #[] 3)).heap.size := by simp
  have hlm := hf.1
  have HW := Lib.hid h'
  obtain ⟨a, cap, rfl⟩ := h.slice
  obtain ⟨a', cap', rfl⟩ := h'.slice
  obtain ⟨a'', cap'', rfl⟩ := h''.slice
  clear h h' h'' hf hb0
  have HLL := Lib.hid (show ([] : List Int).length + l.length ≤ 4194304 by simp; omega)
  unfold maxLen at hlm
  have HAY := Lib.hid (fun h => actR_yes (m := m) (ws := ws) (l := l) h)
  have HAN := Lib.hid (fun h => actR_no (m := m) (ws := ws) (l := l) h)
  have HWY := Lib.hid (fun h => wordB_yes (c := m) (l := ws) h)
  have HWN := Lib.hid (fun h => wordB_no (c := m) (l := ws) h)
  have HST := Lib.hid (fun k hk => actRW_step (m := m) (ws := ws) (l := l) (k := k) hk)
  have HLE := Lib.hid (fun k => actRW_len m (ws.drop k) l)
  have H0 := Lib.hid (show ws.drop 0 = ws from rfl)
  have HNIL := Lib.hid (show actRW m (ws.drop ws.length) l = l from by rw [List.drop_length]; rfl)
  generalize actR m ws l = R at *
  generalize wordB m ws = wb at *
  generalize hnw : ws.length = nw at *
  generalize hnl : l.length = nl at *
  generalize hnm : m.length = nm at *
  have HNW := Lib.hid hnw; have HNL := Lib.hid hnl; have HNM := Lib.hid hnm
  clear hnw hnl hnm
  go_enter Try.func40, Try.ntmps40
  go_wp2_with (at_builtin; go_must (refine append_intsA (row_empty w) hs0 HL.out (by rw [HNL.out]; exact HLL.out) rfl rfl rfl rfl ?_))
  intro v3 w3 hr3 hb3 hz3
  have hr3 : RowI w.heap.size w3.heap.size w3 v3 l := by simpa using hr3
  have HR3 := Lib.hid hr3
  have HB3 := Lib.hid (hb3 w w.heap.size (Nat.le_refl _) HB0.out)
  clear hb3 hz3 hr3 HL HB0 hs0 HLL
  go_wp2_with fail
  by_cases hok : ActOk m ws l
  · have HV := Lib.hid (HAY.out hok)
    have HWB := Lib.hid (HWY.out hok.1)
    have heq : ((nl : Int) == (nm : Int)) = true := by have := hok.2; rw [HNL.out, HNM.out] at this; rw [this]; simp
    have HI := Lib.hid hok.1
    have HLM := Lib.hid (show nl = nm from by have := hok.2; rw [HNL.out, HNM.out] at this; exact this)
    clear hok HAY HAN HWY HWN
    go_loopw [7, 8] (fun o i wr => ∃ (k : Nat) (wq : World), wq = wr ∧ k ≤ nw ∧ i = .int .i64 ((k : Int) - 1) ∧ RowI w.heap.size wq.heap.size wq o (actRW m (ws.drop k) l) ∧ Below w.heap.size w wq) (fun _ i _ => (intOf i + 1).toNat)
    case atStart => exact ⟨nw, _, rfl, Nat.le_refl _, rfl, by rw [HNIL.out]; exact HR3.out, HB3.out⟩
    case round =>
      obtain ⟨k, wq, rfl, hk, rfl, hM, hb⟩ := hrel
      have HM := Lib.hid hM; clear hM
      have hsq := hb.size
      have HB := Lib.hid hb
      have HWQ := Lib.hid (HIW.out wq hb)
      clear hb
      by_cases hlt : 0 < k
      · obtain ⟨j, rfl⟩ : ∃ j, k = j + 1 := ⟨k - 1, by omega⟩
        have e1 : ((j + 1 : Nat) : Int) - 1 = (j : Int) := by omega
        rw [e1]
        clear e1
        have hjw : j < nw := by omega
        have HLT := Lib.hid (HI.out.1 j (by rw [HNW.out]; exact hjw))
        have HS := Lib.hid (HST.out j hjw)
        have HLQ := Lib.hid (HLE.out (j + 1))
        rw [HNM.out] at HLT
        obtain ⟨t, ht⟩ : ∃ t : Nat, ws.getD j 0 = (t : Int) := Int.eq_ofNat_of_zero_le HLT.out.1
        have ht4 : t < nm := by have := HLT.out.2; rw [ht] at this; omega
        have HTN := Lib.hid ht4
        go_wp2_with fail
        refine HWQ.out.mono ?_
        rintro e w1 ⟨rfl, q, rfl⟩
        rw [HWB.out]
        obtain ⟨b, off, rfl, hbB, hc⟩ := ((HW.out.below HB.out hB').drewN q).getD hjw
        rw [ht] at hc
        have HBQ := Lib.hid (HB.out.trans ((below_drewN q).mono hsq))
        have HMQ := Lib.hid (HM.out.same (SameIn.of_below (below_drewN q) (Nat.le_refl _)))
        have HC := Lib.hid (HRF.out t _ _ _ HBQ.out HMQ.out HI.out.2.1 (by rw [HLQ.out]; exact HLM.out) HTN.out)
        have htn : (ws.getD j 0).toNat = t := by rw [ht]; rfl
        rw [htn] at HS
        clear ht htn hbB
        rw [HS.out] at HC
        go_wp2_with fail
        refine HC.out.mono ?_
        rintro e w2 ⟨x, rfl, hx, hb2⟩
        have HX := Lib.hid (hx.1.mono HBQ.out.size (Nat.le_refl _))
        have HB2 := Lib.hid (HBQ.out.trans (hb2.mono HBQ.out.size))
        clear hx hb2
        go_wp2_with fail
        exact ⟨⟨j, _, rfl, by omega, rfl, HX.out, HB2.out⟩, by simp [intOf]⟩
      · obtain rfl : k = 0 := by omega
        have hM := HM.out
        rw [H0.out] at hM
        have HM0 := Lib.hid hM
        clear hM
        go_wp2_with fail
        go_ret
        exact ⟨_, rfl, ⟨by rw [HV.out]; exact HM0.out, Nat.le_refl _⟩, HB.out⟩
  · have HV := Lib.hid (HAN.out hok)
    have hcase : (nw = 0) ∨ (0 < nw ∧ wb = false) ∨ (0 < nw ∧ wb = true ∧ ((nl : Int) == (nm : Int)) = false) := by
      by_cases h0 : nw = 0
      · exact Or.inl h0
      · by_cases hw : IsW m ws
        · refine Or.inr (Or.inr ⟨by omega, HWY.out hw, ?_⟩)
          rw [beq_eq_false_iff_ne]
          intro he
          exact hok ⟨hw, by rw [HNL.out, HNM.out]; omega⟩
        · exact Or.inr (Or.inl ⟨by omega, HWN.out hw⟩)
    clear hok HAY HAN HWY HWN HST HLE H0 HNIL HRF
    go_loopw [7, 8] (fun o i wr => o = v3 ∧ i = .int .i64 ((nw : Int) - 1) ∧ wr = w3) (fun _ _ _ => 0)
    case atStart => exact ⟨rfl, rfl, rfl⟩
    case round =>
      obtain ⟨rfl, rfl, rfl⟩ := hrel
      have HWQ := Lib.hid (HIW.out _ HB3.out)
      rcases hcase with h0 | ⟨h0, hw⟩ | ⟨h0, hw, heq⟩
      · have hd : decide (1 ≤ nw) = false := decide_eq_false (by omega)
        have hd2 : decide (0 < nw) = false := decide_eq_false (by omega)
        have hd3 : decide (1 ≤ (nw : Int)) = false := decide_eq_false (by omega)
        clear h0
        go_wp2_with fail
        go_ret
        exact ⟨_, rfl, ⟨by rw [HV.out]; exact HR3.out, Nat.le_refl _⟩, HB3.out⟩
      · subst hw
        have hd : decide (1 ≤ nw) = true := decide_eq_true (by omega)
        have hd2 : decide (0 < nw) = true := decide_eq_true (by omega)
        have hd3 : decide (1 ≤ (nw : Int)) = true := decide_eq_true (by omega)
        go_wp2_with fail
        refine HWQ.out.mono ?_
        rintro e w1 ⟨rfl, q, rfl⟩
        go_wp2_with fail
        go_ret
        exact ⟨_, rfl, ⟨by rw [HV.out]; exact HR3.out.same (SameIn.of_below (below_drewN q) (Nat.le_refl _)), Nat.le_refl _⟩, HB3.out.trans ((below_drewN q).mono HB3.out.size)⟩
      · subst hw
        have hd : decide (1 ≤ nw) = true := decide_eq_true (by omega)
        have hd2 : decide (0 < nw) = true := decide_eq_true (by omega)
        have hd3 : decide (1 ≤ (nw : Int)) = true := decide_eq_true (by omega)
        go_wp2_with fail
        refine HWQ.out.mono ?_
        rintro e w1 ⟨rfl, q, rfl⟩
        go_wp2_with fail
        go_ret
        exact ⟨_, rfl, ⟨by rw [HV.out]; exact HR3.out.same (SameIn.of_below (below_drewN q) (Nat.le_refl _)), Nat.le_refl _⟩, HB3.out.trans ((below_drewN q).mono HB3.out.size)⟩
end Go.Proofs.Ytfjeghalkmkgoaa
namespace Go.Proofs.Ytfjeghalkmkgoaa
open Go.ChangeShapes Go.WideShapes Go.ChangeAt Go.ChangeMaps Go.RowKit

set_option maxRecDepth 100000 in
theorem row_open {H : Type} {enc : TypeId × Value → H} {W : World} {base : Nat} {v : Value} {d : DataW H} {ps : List MemPlace} (hval : Value.okWide Try.prog W .any base 23 v)
    (h : DataW.Trod enc Try.prog W 0 (fun _ => true) true 23 v d ps) : ∃ l : List Int, RowB W.heap.size W v l ∧ l.length ≤ maxLen := by
  obtain ⟨a0, len, cap, rfl⟩ := okWide_slice Try.underlying23 hval
  obtain ⟨fuel, hf⟩ := h
  have ce : Try.prog.cellsOf 3 = 1 := by kernel_rfl
  rcases open_ints Try.underlying23 Try.underlying3 ce hf with ⟨hcs, _⟩ | ⟨a, len', cap', zs, hcs, _, hl, hm, hz, _, hc, _⟩
  · simp [Value.cells] at hcs
    obtain ⟨rfl, rfl, rfl⟩ := hcs
    exact ⟨[], Or.inl ⟨rfl, none, 0, rfl⟩, Nat.zero_le _⟩
  · simp [Value.cells] at hcs
    obtain ⟨rfl, rfl, rfl⟩ := hcs
    have hz' : zs.length = cap := by simpa using hz
    refine ⟨zs.take len, ?_, by rw [List.length_take]; omega⟩
    by_cases hl0 : len = 0
    · subst hl0
      exact Or.inl ⟨by simp, _, _, rfl⟩
    · obtain ⟨b, off, spot⟩ := a
      have h0 := hc 0 (by omega)
      have hspot : spot = none := by simpa [Addr.add] using World.cell?_spot h0
      subst hspot
      have hb : b < W.heap.size := by
        have := World.block_lt_of_cell? W _ h0
        simpa [Addr.add] using this
      have hlen : (zs.take len).length = len := by rw [List.length_take]; omega
      refine Or.inr ⟨b, off, cap, by rw [hlen], hb, fun j hj => ?_⟩
      have hj' : j < len := by omega
      have hadd : (⟨b, off, none⟩ : Addr).add j = ⟨b, off + j, none⟩ := by unfold Addr.add; split <;> simp_all
      have h1 := hc j (by omega)
      rw [hadd] at h1
      rw [h1]
      simp [List.getD, show j < zs.length by omega]
end Go.Proofs.Ytfjeghalkmkgoaa
namespace Go.Proofs.Ytfjeghalkmkgoaa
open Go.ChangeShapes Go.WideShapes Go.ChangeAt Go.ChangeMaps Go.RowKit

section
variable {H : Type} {enc : TypeId × Value → H} {P : Program}

def rowed (P : Program) (ts : List TypeId) : Bool := ts.all fun t => P.readableRec t && decide (t < P.types.size)

theorem stays_all (hl : laidOutB P = true) {W W' : World} (hb : Below W.heap.size W W') (sp : Nat → Bool) :
    ∀ {ts : List TypeId} {vs : List Value} {ds : List (DataW H)} {p : List MemPlace}, rowed P ts = true → (∀ x ∈ p, x.block < W.heap.size) → (∀ x ∈ p, sp x.block = true) →
      DataW.TrodAll enc P W 0 (fun _ => true) true ts vs ds p → DataW.TrodAll enc P W' 0 sp true ts vs ds p
  | [], _, _, _, _, _, _, h => by
    obtain ⟨rfl, rfl, rfl⟩ := trodAll_nil h
    rfl
  | t :: ts, _, _, _, hr, hlt, hs, h => by
    obtain ⟨v, vs', d, ds', p, q, rfl, rfl, rfl, h1, h2⟩ := trodAll_cons h
    simp only [rowed, List.all_cons, Bool.and_eq_true, decide_eq_true_eq] at hr
    have hp : ∀ x ∈ p, x.block < W.heap.size := fun x hx => hlt x (by simp [hx])
    refine ⟨p, q, WideElems.Trod_stays hl hr.1.1 hr.1.2 h1 (fun x hx => hb.same (hp x hx)) (fun x hx => hs x (by simp [hx])), ?_, rfl⟩
    exact stays_all hl hb sp (ts := ts) hr.2 (fun x hx => hlt x (by simp [hx])) (fun x hx => hs x (by simp [hx])) h2

/-- What a law leaves behind: it answered true, and below the old heap's end nothing has turned. -/
theorem law_post {f : Func} {s : ChangeSpec} {W W' : World} {args : Array Value} {ds gs : List (DataW H)} {before : List MemPlace} {tb : TypeId}
    (hl : laidOutB P = true) (hr : rowed P f.params.toList = true) (hv : s.vars = []) (hres : f.resultTypes = #[tb]) (htb : P.underlying tb = some .bool)
    (hW : DataW.Whole enc P f.params.toList s.vars false W args.toList ds gs before)
    (hfn : s.fn H (ds ++ gs) = { results := [.lit (.bool true)], args := ds }) (hb : Below W.heap.size W W') :
    s.post enc P f false true false false W args (.bool true) W' := by
  have hlt : ∀ p ∈ before, p.block < W.heap.size := fun p hp => hW.lt p hp
  have hW0 := hW
  obtain ⟨p, q, hA, hV, rfl, hz, -⟩ := hW
  rw [hv] at hV
  obtain ⟨rfl, rfl⟩ := trodVars_none hV
  have hrl : (Value.bool true).resultList f.resultTypes.size = [.bool true] := by rw [hres]; rfl
  have hR : ∀ (b : Nat) (sp : Nat → Bool) (hd : Bool), DataW.TrodAll enc P W' b sp hd f.resultTypes.toList ((Value.bool true).resultList f.resultTypes.size) (s.fn H (ds ++ [])).results [] := by
    intro b sp hd
    rw [hrl, hres, hfn]
    exact trodAll_mk1 (shut_bool htb true)
  have hA' : ∀ sp : Nat → Bool, (∀ x ∈ p, sp x.block = true) → DataW.TrodAll enc P W' 0 sp true f.params.toList args.toList (s.fn H (ds ++ [])).args p := by
    intro sp hs
    rw [hfn]
    exact stays_all hl hb sp hr (fun x hx => hlt x (by simp [hx])) hs hA
  have hV' : ∀ sp : Nat → Bool, DataW.TrodVars enc P W' sp s.vars (s.fn H (ds ++ [])).vars [] := by
    intro sp
    rw [hfn, hv]
    rfl
  refine ⟨ds, [], p ++ [], [], p, [], hW0, hR _ _ _, hA' _ (fun x hx => by simpa using hlt x (by simp [hx])), hV' _, World.keptBut_mono (fun x hx => ?_) (hb.frame (· ∈ p ++ [])), fun h => by cases h⟩
  exact ⟨hx, Or.inr (Or.inl (by simpa using hx))⟩
end
end Go.Proofs.Ytfjeghalkmkgoaa
namespace Go.Proofs.Ytfjeghalkmkgoaa
theorem seat_own : ownKnob Try.prog.godebug = none := by kernel_rfl
theorem seat_laidOut : laidOutB Try.prog = true := by kernel_rfl
end Go.Proofs.Ytfjeghalkmkgoaa
