/-
  Roots: what the model's ReflectRoot and ActOnRoot return.
  Roots: what the model's order, search and insertion return.
  Braid moves: what the model's BraidAt, BraidPlaces and its ordered list answer (no walk here).
  Roots: what the model's SimpleRoot and WeightOfRoot return.
-/
import Derived.Test.YtfjeghalkmkgoaaFl33
import Derived.Test.YtfjeghalkmkgoaaFl17
import Derived.Test.YtfjeghalkmkgoaaFl08
import Derived.Test.YtfjeghalkmkgoaaFl19
import Derived.Test.YtfjeghalkmkgoaaFl06
import Derived.Test.YtfjeghalkmkgoaaFl15
namespace Go.Proofs.Ytfjeghalkmkgoaa
open Go.RowKit

set_option maxHeartbeats 4000000 in
set_option maxRecDepth 100000 in
theorem actrs_any (B B' B'' : Nat) (v v' v'' : Value) (m : List (List Int)) (ws l : List Int) (w : World) (h : MatB B w v m) (h' : RowB B' w v' ws) (h'' : RowB B'' w v'' l) (hB : B ≤ w.heap.size) (hB' : B' ≤ w.heap.size) (hB'' : B'' ≤ w.heap.size) (hf : RowsFit m) (hw : ws.length ≤ 1048576) (hl : l.length ≤ 1048576) :
    Calls Try.prog 40 #[v, v', v''] w (MakesS w (actR m ws l)) := by
  have hb0 : Below w.heap.size w (w.alloc (.cells #[] 3)) := (Below.refl _ _).alloc (Nat.le_refl _) _
  have HIW := Lib.hid (fun (wx : World) (hb : Below w.heap.size w wx) => isws_any B B' v v' m ws wx (h.below hb hB) (h'.below hb hB') hf (by unfold maxLen; omega))
  have HRF := Lib.hid (fun (k : Nat) (lx : List Int) (x : Value) (wx : World) (hb : Below w.heap.size w wx) (hx : RowI w.heap.size wx.heap.size wx x lx) (hI : IsC m) (hll : lx.length = m.length) (hk : k < m.length) => l7r_any B wx.heap.size v x m lx k wx (h.below hb hB) hx.rowB (Nat.le_trans hB hb.size) (Nat.le_refl _) hI hll hk)
  have HL := Lib.hid (h''.below hb0 hB'')
  have HB0 := Lib.hid hb0
  have hs0 : w.heap.size ≤ (w.alloc (.cells #[] 3)).heap.size := by simp
  have hlm := hf.1
  have HW := Lib.hid h'
  obtain ⟨a, cap, rfl⟩ := h.slice
  obtain ⟨a', cap', rfl⟩ := h'.slice
  obtain ⟨a'', cap'', rfl⟩ := h''.slice
  clear h h' h'' hf hb0
  have HLL := Lib.hid (show ([] : List Int).length + l.length ≤ 4194304 by simp; omega)
  unfold maxLen at hlm
  have HAY := Lib.hid (fun h => actR_yes (m := m) (ws := ws) (l := l) h)
  have HAN := Lib.hid (fun h => actR_no (m := m) (ws := ws) (l := l) h)
  have HWY := Lib.hid (fun h => wordB_yes (c := m) (l := ws) h)
  have HWN := Lib.hid (fun h => wordB_no (c := m) (l := ws) h)
  have HST := Lib.hid (fun k hk => actRW_step (m := m) (ws := ws) (l := l) (k := k) hk)
  have HLE := Lib.hid (fun k => actRW_len m (ws.drop k) l)
  have H0 := Lib.hid (show ws.drop 0 = ws from rfl)
  have HNIL := Lib.hid (show actRW m (ws.drop ws.length) l = l from by rw [List.drop_length]; rfl)
  generalize actR m ws l = R at *
  generalize wordB m ws = wb at *
  generalize hnw : ws.length = nw at *
  generalize hnl : l.length = nl at *
  generalize hnm : m.length = nm at *
  have HNW := Lib.hid hnw; have HNL := Lib.hid hnl; have HNM := Lib.hid hnm
  clear hnw hnl hnm
  go_enter Try.func40, Try.ntmps40
  go_wp2_with (at_builtin; go_must (refine append_intsA (row_empty w) hs0 HL.out (by rw [HNL.out]; exact HLL.out) rfl rfl rfl rfl ?_))
  intro v3 w3 hr3 hb3 hz3
  have hr3 : RowI w.heap.size w3.heap.size w3 v3 l := by simpa using hr3
  have HR3 := Lib.hid hr3
  have HB3 := Lib.hid (hb3 w w.heap.size (Nat.le_refl _) HB0.out)
  clear hb3 hz3 hr3 HL HB0 hs0 HLL
  go_wp2_with fail
  by_cases hok : ActOk m ws l
  · have HV := Lib.hid (HAY.out hok)
    have HWB := Lib.hid (HWY.out hok.1)
    have heq : ((nl : Int) == (nm : Int)) = true := by have := hok.2; rw [HNL.out, HNM.out] at this; rw [this]; simp
    have HI := Lib.hid hok.1
    have HLM := Lib.hid (show nl = nm from by have := hok.2; rw [HNL.out, HNM.out] at this; exact this)
    clear hok HAY HAN HWY HWN
    go_loopw [7, 8] (fun o i wr => ∃ (k : Nat) (wq : World), wq = wr ∧ k ≤ nw ∧ i = .int .i64 ((k : Int) - 1) ∧ RowI w.heap.size wq.heap.size wq o (actRW m (ws.drop k) l) ∧ Below w.heap.size w wq) (fun _ i _ => (intOf i + 1).toNat)
    case atStart => exact ⟨nw, _, rfl, Nat.le_refl _, rfl, by rw [HNIL.out]; exact HR3.out, HB3.out⟩
    case round =>
      obtain ⟨k, wq, rfl, hk, rfl, hM, hb⟩ := hrel
      have HM := Lib.hid hM; clear hM
      have hsq := hb.size
      have HB := Lib.hid hb
      have HWQ := Lib.hid (HIW.out wq hb)
      clear hb
      by_cases hlt : 0 < k
      · obtain ⟨j, rfl⟩ : ∃ j, k = j + 1 := ⟨k - 1, by omega⟩
        have e1 : ((j + 1 : Nat) : Int) - 1 = (j : Int) := by omega
        rw [e1]
        clear e1
        have hjw : j < nw := by omega
        have HLT := Lib.hid (HI.out.1 j (by rw [HNW.out]; exact hjw))
        have HS := Lib.hid (HST.out j hjw)
        have HLQ := Lib.hid (HLE.out (j + 1))
        rw [HNM.out] at HLT
        obtain ⟨t, ht⟩ : ∃ t : Nat, ws.getD j 0 = (t : Int) := Int.eq_ofNat_of_zero_le HLT.out.1
        have ht4 : t < nm := by have := HLT.out.2; rw [ht] at this; omega
        have HTN := Lib.hid ht4
        go_wp2_with fail
        refine HWQ.out.mono ?_
        rintro e w1 ⟨rfl, q, rfl⟩
        rw [HWB.out]
        obtain ⟨b, off, rfl, hbB, hc⟩ := ((HW.out.below HB.out hB').drewN q).getD hjw
        rw [ht] at hc
        have HBQ := Lib.hid (HB.out.trans ((below_drewN q).mono hsq))
        have HMQ := Lib.hid (HM.out.same (SameIn.of_below (below_drewN q) (Nat.le_refl _)))
        have HC := Lib.hid (HRF.out t _ _ _ HBQ.out HMQ.out HI.out.2.1 (by rw [HLQ.out]; exact HLM.out) HTN.out)
        have htn : (ws.getD j 0).toNat = t := by rw [ht]; rfl
        rw [htn] at HS
        clear ht htn hbB
        rw [HS.out] at HC
        go_wp2_with fail
        refine HC.out.mono ?_
        rintro e w2 ⟨x, rfl, hx, hb2⟩
        have HX := Lib.hid (hx.1.mono HBQ.out.size (Nat.le_refl _))
        have HB2 := Lib.hid (HBQ.out.trans (hb2.mono HBQ.out.size))
        clear hx hb2
        go_wp2_with fail
        exact ⟨⟨j, _, rfl, by omega, rfl, HX.out, HB2.out⟩, by simp [intOf]⟩
      · obtain rfl : k = 0 := by omega
        have hM := HM.out
        rw [H0.out] at hM
        have HM0 := Lib.hid hM
        clear hM
        go_wp2_with fail
        go_ret
        exact ⟨_, rfl, ⟨by rw [HV.out]; exact HM0.out, Nat.le_refl _⟩, HB.out⟩
  · have HV := Lib.hid (HAN.out hok)
    have hcase : (nw = 0) ∨ (0 < nw ∧ wb = false) ∨ (0 < nw ∧ wb = true ∧ ((nl : Int) == (nm : Int)) = false) := by
      by_cases h0 : nw = 0
      · exact Or.inl h0
      · by_cases hw : IsW m ws
        · refine Or.inr (Or.inr ⟨by omega, HWY.out hw, ?_⟩)
          rw [beq_eq_false_iff_ne]
          intro he
          exact hok ⟨hw, by rw [HNL.out, HNM.out]; omega⟩
        · exact Or.inr (Or.inl ⟨by omega, HWN.out hw⟩)
    clear hok HAY HAN HWY HWN HST HLE H0 HNIL HRF
    go_loopw [7, 8] (fun o i wr => o = v3 ∧ i = .int .i64 ((nw : Int) - 1) ∧ wr = w3) (fun _ _ _ => 0)
    case atStart => exact ⟨rfl, rfl, rfl⟩
    case round =>
      obtain ⟨rfl, rfl, rfl⟩ := hrel
      have HWQ := Lib.hid (HIW.out _ HB3.out)
      rcases hcase with h0 | ⟨h0, hw⟩ | ⟨h0, hw, heq⟩
      · have hd : decide (1 ≤ nw) = false := decide_eq_false (by omega)
        have hd2 : decide (0 < nw) = false := decide_eq_false (by omega)
        have hd3 : decide (1 ≤ (nw : Int)) = false := decide_eq_false (by omega)
        clear h0
        go_wp2_with fail
        go_ret
        exact ⟨_, rfl, ⟨by rw [HV.out]; exact HR3.out, Nat.le_refl _⟩, HB3.out⟩
      · subst hw
        have hd : decide (1 ≤ nw) = true := decide_eq_true (by omega)
        have hd2 : decide (0 < nw) = true := decide_eq_true (by omega)
        have hd3 : decide (1 ≤ (nw : Int)) = true := decide_eq_true (by omega)
        go_wp2_with fail
        refine HWQ.out.mono ?_
        rintro e w1 ⟨rfl, q, rfl⟩
        go_wp2_with fail
        go_ret
        exact ⟨_, rfl, ⟨by rw [HV.out]; exact HR3.out.same (SameIn.of_below (below_drewN q) (Nat.le_refl _)), Nat.le_refl _⟩, HB3.out.trans ((below_drewN q).mono HB3.out.size)⟩
      · subst hw
        have hd : decide (1 ≤ nw) = true := decide_eq_true (by omega)
        have hd2 : decide (0 < nw) = true := decide_eq_true (by omega)
        have hd3 : decide (1 ≤ (nw : Int)) = true := decide_eq_true (by omega)
        go_wp2_with fail
        refine HWQ.out.mono ?_
        rintro e w1 ⟨rfl, q, rfl⟩
        go_wp2_with fail
        go_ret
        exact ⟨_, rfl, ⟨by rw [HV.out]; exact HR3.out.same (SameIn.of_below (below_drewN q) (Nat.le_refl _)), Nat.le_refl _⟩, HB3.out.trans ((below_drewN q).mono HB3.out.size)⟩
end Go.Proofs.Ytfjeghalkmkgoaa
namespace Go.Proofs.Ytfjeghalkmkgoaa
open Go.RowKit

/-! ### A root in a list -/
def InTo (L : List (List Int)) (r : List Int) (k : Nat) : Prop := ∀ j, j < k → L.getD j [] ≠ r
theorem inTo_zero (L : List (List Int)) (r : List Int) : InTo L r 0 := fun _ h => absurd h (Nat.not_lt_zero _)
theorem inTo_step {L : List (List Int)} {r : List Int} {k : Nat} (h : InTo L r k) (hk : L.getD k [] ≠ r) : InTo L r (k + 1) := fun j hj => by
  rcases Nat.lt_or_ge j k with h' | h'
  · exact h j h'
  · obtain rfl : j = k := by omega
    exact hk
def inRB (L : List (List Int)) (r : List Int) : Bool := decide (r ∈ L)
theorem inRB_no {L : List (List Int)} {r : List Int} (h : InTo L r L.length) : inRB L r = false := decide_eq_false fun hm => by
  obtain ⟨j, hj, e⟩ := List.getElem_of_mem hm
  exact h j hj (by simp [List.getD, hj, e])
theorem inRB_yes {L : List (List Int)} {r : List Int} {k : Nat} (hk : k < L.length) (h : L.getD k [] = r) : inRB L r = true := decide_eq_true (by
  have e : L.getD k [] = L[k] := by simp [List.getD, hk]
  rw [← h, e]; exact List.getElem_mem hk)
theorem MatB.rowD {B : Nat} {w : World} {a : Option Addr} {n cap : Nat} {m : List (List Int)} (h : MatB B w (.slice a n cap) m) {j : Nat} (hj : j < n) :
    ∃ b off ra rcap, j < m.length ∧ a = some ⟨b, off, none⟩ ∧ b < B ∧ w.cell? ⟨b, off + j, none⟩ = some (.slice ra (m.getD j []).length rcap) ∧ RowB B w (.slice ra (m.getD j []).length rcap) (m.getD j []) := by
  obtain ⟨b, off, hjl, rfl, hb, ra, rcap, hc, hr⟩ := h.get hj
  have e := getD_row m j hjl
  exact ⟨b, off, ra, rcap, hjl, rfl, hb, by rw [e]; exact hc, by rw [e]; exact hr⟩
set_option maxHeartbeats 4000000 in
set_option maxRecDepth 100000 in
theorem ins_any (B B' : Nat) (v v' : Value) (L : List (List Int)) (r : List Int) (w : World) (h : MatB B w v L) (h' : RowB B' w v' r) (hf : RowsFit L) (hr : r.length ≤ maxLen) :
    Calls Try.prog 73 #[v, v'] w fun e w' => e = .returned (.bool (inRB L r)) ∧ ∃ q, w' = w.drewN q := by
  have hlm := hf.1
  obtain ⟨a, cap, rfl⟩ := h.slice
  have HR := Lib.hid h; have HL := Lib.hid h'; have HF := Lib.hid hf
  have HRL := Lib.hid hr
  clear h h' hf hr
  unfold maxLen at hlm
  have HNO := Lib.hid (fun h => inRB_no (L := L) (r := r) h)
  have HYES := Lib.hid (fun k hk h => inRB_yes (L := L) (r := r) (k := k) hk h)
  generalize inRB L r = R at *
  generalize hn : L.length = n at *
  have HN := Lib.hid hn
  clear hn
  go_enter Try.func73, Try.ntmps73
  go_wp2_with fail
  go_loopw [5] (fun i wr => ∃ (k q : Nat), k ≤ n ∧ i = .int .i64 k ∧ wr = w.drewN q ∧ Hid (InTo L r k)) (fun i _ => n - (intOf i).toNat)
  case atStart => exact ⟨0, 0, Nat.zero_le _, rfl, rfl, Lib.hid (inTo_zero _ _)⟩
  case round =>
    obtain ⟨k, q, hk, rfl, rfl, hs⟩ := hrel
    by_cases hlt : k < n
    · have hd1 : decide (k < n) = true := decide_eq_true hlt
      obtain ⟨b, off, ra, rcap, hkl, rfl, hb, hc, hrow⟩ := HR.out.rowD hlt
      have hfk : (L.getD k []).length ≤ maxLen := by rw [getD_row L k hkl]; exact HF.out.2 k hkl
      have HE := Lib.hid (eqws_any (max B B') _ v' (L.getD k []) r (w.drewN q) (hrow.drewN q |>.mono (Nat.le_max_left _ _)) (HL.out.drewN q |>.mono (Nat.le_max_right _ _)) hfk HRL.out)
      have HY := Lib.hid (HYES.out k hlt)
      have HST := Lib.hid (fun h => inTo_step (L := L) (r := r) (k := k) hs.out h)
      have HEB := Lib.hid (show eqwB (L.getD k []) r = decide (L.getD k [] = r) from by
        unfold eqwB; rw [decide_eq_decide]; exact cmpW_zero)
      clear hs hrow hfk hb
      generalize L.getD k [] = x at *
      generalize eqwB x r = eb at *
      by_cases he : x = r
      · have hV := HY.out he
        rw [HEB.out, decide_eq_true he] at HE
        have HV := Lib.hid hV
        clear hV HY HST HEB he
        generalize x.length = xn at *
        go_wp2_with fail
        refine HE.out.mono ?_
        rintro e w1 ⟨rfl, nq, rfl⟩
        go_wp2_with fail
        go_ret
        exact ⟨ret_boolean HV.out.symm, _, by first | rfl | exact World.drewN_drewN _ _ _⟩
      · have HS := Lib.hid (HST.out he)
        rw [HEB.out, decide_eq_false he] at HE
        clear HY HST HEB he
        generalize x.length = xn at *
        go_wp2_with fail
        refine HE.out.mono ?_
        rintro e w1 ⟨rfl, nq, rfl⟩
        go_wp2_with fail
        exact ⟨⟨k + 1, q + nq, by omega, by go_num, by first | rfl | exact World.drewN_drewN _ _ _, HS⟩, by simp [intOf]; omega⟩
    · obtain rfl : k = n := by omega
      have hd : decide (k < k) = false := by simp
      have HV := Lib.hid (HNO.out hs.out)
      clear hs
      go_wp2_with fail
      go_ret
      exact ⟨ret_boolean HV.out.symm, q, rfl⟩
end Go.Proofs.Ytfjeghalkmkgoaa
namespace Go.Proofs.Ytfjeghalkmkgoaa
open Go.RowKit

noncomputable def brN (m : List (List Int)) (q : List Int) (at_ : Nat) : Int := bond m (q.getD at_ 0) (q.getD (at_ + 1) 0)
/-- A braid move is possible. -/
def BrOk (m : List (List Int)) (q : List Int) (at_ : Int) : Prop :=
  IsW m q ∧ (0 ≤ at_ ∧ at_ ≤ (q.length : Int) - 2) ∧ q.getD at_.toNat 0 ≠ q.getD (at_.toNat + 1) 0 ∧ (2 ≤ brN m q at_.toNat ∧ brN m q at_.toNat ≤ (q.length : Int) - at_) ∧ (q.drop at_.toNat).take (brN m q at_.toNat).toNat = altL (q.getD at_.toNat 0) (q.getD (at_.toNat + 1) 0) (brN m q at_.toNat)
/-- What comes of it. -/
noncomputable def brV (m : List (List Int)) (q : List Int) (t : Nat) : List Int := q.take t ++ altL (q.getD (t + 1) 0) (q.getD t 0) (brN m q t) ++ q.drop (t + (brN m q t).toNat)
open Classical in
noncomputable def brB (m : List (List Int)) (q : List Int) (at_ : Int) : Bool := decide (BrOk m q at_)
noncomputable def brL (m : List (List Int)) (q : List Int) (at_ : Int) : List Int := if brB m q at_ = true then brV m q at_.toNat else q
open Classical in
theorem brB_yes {m : List (List Int)} {q : List Int} {a : Int} (h : BrOk m q a) : brB m q a = true := decide_eq_true h
open Classical in
theorem brB_no {m : List (List Int)} {q : List Int} {a : Int} (h : ¬ BrOk m q a) : brB m q a = false := decide_eq_false h
open Classical in
theorem brB_ok {m : List (List Int)} {q : List Int} {a : Int} (h : brB m q a = true) : BrOk m q a := of_decide_eq_true h
theorem brL_yes {m : List (List Int)} {q : List Int} {a : Int} (h : BrOk m q a) : brL m q a = brV m q a.toNat := if_pos (brB_yes h)
theorem brL_no {m : List (List Int)} {q : List Int} {a : Int} (h : ¬ BrOk m q a) : brL m q a = q := by unfold brL; rw [brB_no h]; rfl
theorem bondP_low (p : Int) : bondP p ≤ 6 := by unfold bondP; split; omega; split; omega; split; omega; split <;> omega
theorem bond_low (m : List (List Int)) (i j : Int) : bond m i j ≤ 6 := by
  unfold bond
  split
  · split
    · omega
    · exact bondP_low _
  · omega
theorem bond_up (m : List (List Int)) (i j : Int) : -1 ≤ bond m i j := by
  unfold bond
  split
  · split
    · omega
    · unfold bondP; split; omega; split; omega; split; omega; split <;> omega
  · omega
/-! ### The element is kept -/
theorem altK_succ (i j : Int) (k : Nat) : altK i j (k + 1) = i :: altK j i k := by
  unfold altK
  rw [List.range_succ_eq_map, List.map_cons, List.map_map]
  rw [if_pos (show 0 % 2 = 0 from rfl)]
  refine congrArg (List.cons i) (List.map_congr_left fun t _ => ?_)
  simp only [Function.comp]
  have h := Nat.mod_two_eq_zero_or_one t
  rcases h with h | h
  · rw [if_neg (by omega), if_pos h]
  · rw [if_pos (by omega), if_neg (by omega)]
theorem natsW_altK : ∀ (k : Nat) (i j : Nat), natsW (altK (i : Int) (j : Int) k) = altN i j k
  | 0, _, _ => rfl
  | k + 1, i, j => by
    rw [altK_succ]
    show (i : Int).toNat :: natsW (altK (j : Int) (i : Int) k) = i :: altN j i k
    rw [natsW_altK k j i]; rfl
theorem altL_le (i j n : Int) : (altL i j n).length ≤ 15 := by unfold altL; rw [altK_len]; exact Nat.min_le_right _ _
theorem altL_altK (i j : Int) {n : Int} (h0 : 0 ≤ n) (h15 : n ≤ 15) : altL i j n = altK i j n.toNat := by
  unfold altL; rw [Nat.min_eq_left (by omega)]
theorem getD_nat {n : Nat} {q : List Int} (hq : LetTo n q q.length) {t : Nat} (ht : t < q.length) : ∃ i : Nat, q.getD t 0 = (i : Int) ∧ i < n := by
  have := hq t ht
  exact ⟨(q.getD t 0).toNat, by omega, by omega⟩
/-- The words of the same element with as many letters. -/
def GoodW (m : List (List Int)) (x q : List Int) : Prop := IsW m q ∧ q.length = x.length ∧ imgW m q = imgW m x
/-- The parts of a word at a braid move. -/
theorem br_parts {m : List (List Int)} {q : List Int} {a : Int} (h : BrOk m q a) : ∃ (t i k p : Nat), a = (t : Int) ∧ i < m.length ∧ k < m.length ∧ i ≠ k ∧ relN (entry m i k * entry m k i) p ∧ brN m q t = (p : Int) ∧ t + p ≤ q.length ∧ q = q.take t ++ altK (i : Int) (k : Int) p ++ q.drop (t + p) ∧ brV m q t = q.take t ++ altK (k : Int) (i : Int) p ++ q.drop (t + p) := by
  obtain ⟨hW, ⟨h0, h1⟩, hne, ⟨h2, h3⟩, h4⟩ := h
  obtain ⟨t, rfl⟩ := Int.eq_ofNat_of_zero_le h0
  simp only [Int.toNat_natCast] at hne h2 h3 h4
  obtain ⟨i, e1, hi⟩ := getD_nat hW.1 (show t < q.length by omega)
  obtain ⟨k, e2, hk⟩ := getD_nat hW.1 (show t + 1 < q.length by omega)
  have hik : i ≠ k := fun e => hne (by rw [e1, e2, e])
  have hb : brN m q t = bondP (entry m i k * entry m k i) := by unfold brN; rw [e1, e2]; exact bond_ne hW.2.1 hi hk hik
  obtain ⟨p, hp⟩ : ∃ p : Nat, brN m q t = (p : Int) := Int.eq_ofNat_of_zero_le (by omega)
  have hr : relN (entry m i k * entry m k i) p := by
    rw [hp] at hb
    unfold bondP at hb
    unfold relN
    split at hb
    · rename_i h; exact Or.inl ⟨h, by omega⟩
    · split at hb
      · rename_i h; exact Or.inr (Or.inl ⟨h, by omega⟩)
      · split at hb
        · rename_i h; exact Or.inr (Or.inr (Or.inl ⟨h, by omega⟩))
        · split at hb
          · rename_i h; exact Or.inr (Or.inr (Or.inr ⟨h, by omega⟩))
          · omega
  have hp6 : p ≤ 6 := by unfold relN at hr; omega
  rw [hp] at h2 h3 h4
  simp only [Int.toNat_natCast] at h4
  rw [e1, e2, altL_altK _ _ (by omega) (by omega), Int.toNat_natCast] at h4
  refine ⟨t, i, k, p, rfl, hi, hk, hik, hr, hp, by omega, ?_, ?_⟩
  · rw [← h4, List.append_assoc]
    have : q.drop (t + p) = (q.drop t).drop p := by rw [List.drop_drop]
    rw [this, List.take_append_drop, List.take_append_drop]
  · unfold brV
    rw [hp, e1, e2, altL_altK _ _ (by omega) (by omega), Int.toNat_natCast]
theorem letTo_mem {n : Nat} {a : List Int} (h : ∀ x ∈ a, 0 ≤ x ∧ x ≤ (n : Int) - 1) : LetTo n a a.length := fun j hj => by
  have e : a.getD j 0 = a[j] := by simp [List.getD, hj]
  rw [e]; exact h _ (List.getElem_mem hj)
theorem mem_letTo {n : Nat} {a : List Int} (h : LetTo n a a.length) {x : Int} (hx : x ∈ a) : 0 ≤ x ∧ x ≤ (n : Int) - 1 := by
  obtain ⟨j, hj, rfl⟩ := List.getElem_of_mem hx
  have e : a.getD j 0 = a[j] := by simp [List.getD, hj]
  have := h j hj
  rw [e] at this; exact this
theorem altK_mem {i j x : Int} {k : Nat} (h : x ∈ altK i j k) : x = i ∨ x = j := by
  unfold altK at h
  obtain ⟨t, _, e⟩ := List.mem_map.1 h
  by_cases ht : t % 2 = 0
  · rw [if_pos ht] at e; exact Or.inl e.symm
  · rw [if_neg ht] at e; exact Or.inr e.symm
theorem br_good {m : List (List Int)} {x q : List Int} {a : Int} (hG : GoodW m x q) (h : BrOk m q a) : GoodW m x (brL m q a) := by
  rw [brL_yes h]
  obtain ⟨t, i, k, p, rfl, hi, hk, hik, hr, hp, hle, eq, ev⟩ := br_parts h
  obtain ⟨hW, hl, hm⟩ := hG
  rw [Int.toNat_natCast]
  have hlen : (brV m q t).length = q.length := by
    have := congrArg List.length eq
    rw [ev]
    simp only [List.length_append, altK_len] at this ⊢
    omega
  have hlet : LetTo m.length (brV m q t) (brV m q t).length := letTo_mem fun y hy => by
    rw [ev] at hy
    rcases List.mem_append.1 hy with hy | hy
    · rcases List.mem_append.1 hy with hy | hy
      · exact mem_letTo hW.1 (List.mem_of_mem_take hy)
      · rcases altK_mem hy with e | e <;> omega
    · exact mem_letTo hW.1 (List.mem_of_mem_drop hy)
  have hWv : IsW m (brV m q t) := ⟨hlet, hW.2.1, by rw [hlen]; exact hW.2.2⟩
  refine ⟨hWv, by rw [hlen]; exact hl, ?_⟩
  rw [← hm]
  have g := gcm_of hW.2.1
  have h1 := (imgN_vec hW.2.1 (natsW (brV m q t)) (natsW_in hlet) (by rw [natsW_len]; have := hWv.2.2; omega)).1
  have h2 := (imgN_vec hW.2.1 (natsW q) (natsW_in hW.1) (by rw [natsW_len]; have := hW.2.2; omega)).1
  rw [← imgW_nats] at h1 h2
  refine vecW_inj (by rw [imgW_len, imgW_len]) ?_
  rw [h1, h2]
  show mapN (entry m) (natsW (brV m q t)) onesV = mapN (entry m) (natsW q) onesV
  conv => rhs; rw [eq]
  rw [ev]
  rw [natsW_append, natsW_append, natsW_append, natsW_append, natsW_altK, natsW_altK]
  rw [mapN_append, mapN_append, mapN_append, mapN_append, braid_map g hi hk hik hr]
/-! ### The least word -/
theorem lexLe_cmp : ∀ {a b : List Nat}, a.length = b.length → lexLe a b → cmpL (a.map fun (i : Nat) => (i : Int)) (b.map fun (i : Nat) => (i : Int)) ≤ 0
  | [], [], _, _ => by simp [cmpL]
  | [], _ :: _, h, _ => by simp at h
  | _ :: _, [], h, _ => by simp at h
  | x :: a, y :: b, h, hl => by
    simp only [List.map_cons, cmpL]
    rcases hl with hl | ⟨rfl, hl⟩
    · split
      · omega
      · split <;> omega
    · have ih := lexLe_cmp (by simpa using h) hl
      simpa using ih
theorem good_red {m : List (List Int)} {ws q : List Int} (hW : IsW m ws) (hG : GoodW m (nrmL m ws) q) : Len m.length (entry m) (natsW q) (natsW q).length := by
  have h := nrm_len hG.1
  have e : nrmL m q = nrmL m ws := by rw [nrmL_yes hG.1, hG.2.2, nrm_img hW, ← nrmL_yes hW]
  rw [e, ← hG.2.1] at h
  rw [natsW_len]; exact h
theorem good_least {m : List (List Int)} {ws q : List Int} (hW : IsW m ws) (hG : GoodW m (nrmL m ws) q) : cmpW (nrmL m ws) q ≤ 0 := by
  rw [cmpW_eq hG.2.1.symm]
  have h15 := hG.1.2.2
  have hv := (imgN_vec hW.2.1 (natsW q) (natsW_in hG.1.1) (by rw [natsW_len]; omega)).1
  rw [← imgW_nats, hG.2.2, nrm_img hW] at hv
  have h := form_least hW.2.1 (natsW q) 31 (imgW m ws) (natsW_in hG.1.1) (by rw [natsW_len]; omega) (by rw [natsW_len]; omega) (imgW_len m ws) hv (good_red hW hG)
  have e1 : nrmL m ws = (formN m 31 (imgW m ws)).map fun (i : Nat) => (i : Int) := nrmL_yes hW
  have e2 : q = (natsW q).map fun (i : Nat) => (i : Int) := by
    unfold natsW
    rw [List.map_map]
    refine (List.map_id q).symm.trans (List.map_congr_left fun y hy => ?_)
    have := mem_letTo hG.1.1 hy
    simp only [id, Function.comp]
    omega
  have hl : (formN m 31 (imgW m ws)).length = (natsW q).length := by
    have := hG.2.1
    rw [e1, List.length_map] at this
    rw [natsW_len]; exact this.symm
  rw [e1]
  conv => lhs; rw [e2]
  exact lexLe_cmp hl h
theorem good_self {m : List (List Int)} {ws : List Int} (hW : IsW m ws) : GoodW m (nrmL m ws) (nrmL m ws) := ⟨nrm_word hW, rfl, rfl⟩
theorem RowI.roomB {A B b n cap : Nat} {w : World} {l : List Int} (h : RowI A B w (.slice (some ⟨b, 0, none⟩) n cap) l) (_hn : l.length = n) : n ≤ cap := by
  rcases h.1.2 with ⟨h', _⟩ | ⟨g, cap', cur, h', _, _, h2, _⟩
  · simp at h'
  · simp only [Value.slice.injEq, Option.some.injEq, Addr.mk.injEq, and_true] at h'
    omega
end Go.Proofs.Ytfjeghalkmkgoaa
namespace Go.Proofs.Ytfjeghalkmkgoaa
open Go.RowKit

theorem unit_new (w1 : World) (n k : Nat) (hn : n ≤ 1048576) : RowI w1.heap.size (w1.alloc (.cells ((intsV (zerosR n)).set k (.int .i64 1)).toArray 3)).heap.size (w1.alloc (.cells ((intsV (zerosR n)).set k (.int .i64 1)).toArray 3)) (.slice (some ⟨w1.heap.size, 0, none⟩) n n) (unitR n k) := by
  have e : (intsV (zerosR n)).set k (.int .i64 1) = intsV (unitR n k) := by rw [intsV_set]; rfl
  have hl : (unitR n k).length = n := unitR_len n k
  rw [e]
  refine ⟨by rw [hl]; exact World.ownsRow_lit (base := w1.heap.size) (e := 3) (size := 1) w1 (intsV (unitR n k)).toArray n (Nat.le_refl _) (by unfold maxLen; omega) (by simp [intsV, hl]), fun g hg => ?_⟩
  have : w1.heap.size = g := by simpa [Value.ownBlock] using hg
  simp; omega
end Go.Proofs.Ytfjeghalkmkgoaa
