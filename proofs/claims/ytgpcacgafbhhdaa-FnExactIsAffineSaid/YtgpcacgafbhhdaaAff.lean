/-
  IsAffine of the model: what the call returns.
-/
import Derived.Test.YtgpcacgafbhhdaaWit
namespace Go.Proofs.Ytgpcacgafbhhdaa
open Go.RowKit

def affC (c : Bool) (l : List Int) : Prop := c = true ∧ l.getD (l.length - 1) 0 = 0 ∧ ∀ i, i + 1 < l.length → 0 < l.getD i 0
open Classical in
noncomputable def affB (c : Bool) (l : List Int) : Bool := decide (affC c l)
open Classical in
theorem affB_yes {c : Bool} {l : List Int} (h : affC c l) : affB c l = true := decide_eq_true h
open Classical in
theorem affB_no {c : Bool} {l : List Int} (h : ¬ affC c l) : affB c l = false := decide_eq_false h
theorem conn_isC {m : List (List Int)} (h : connB (partsV m).length = true) : IsC m := Classical.byContradiction fun hn => by
  rw [partsV_no hn] at h
  exact absurd h (by decide)
theorem minV_pos {m : List (List Int)} (h : IsC m) : 1 ≤ (minV m).length := by
  rw [minV_yes h, minK_len]
  rcases (show m.length = 1 ∨ m.length = 2 ∨ m.length = 3 ∨ m.length = 4 by have := h.2.2; omega) with e | e | e | e <;> rw [e] <;> decide

set_option maxHeartbeats 2000000 in
set_option maxRecDepth 100000 in
theorem affs_any (B : Nat) (v : Value) (m : List (List Int)) (w : World) (h : MatB B w v m) (hB : B ≤ w.heap.size) (hf : RowsFit m) :
    Calls Try.prog 21 #[v] w fun e w' => e = .returned (.bool (affB (connB (partsV m).length) (minV m))) ∧ Below w.heap.size w w' := by
  have HPM := Lib.hid (pmin_any B v m w h hB hf)
  have HCO := Lib.hid (fun w1 (hb : Below w.heap.size w w1) => cons_any B v m w1 (h.below hb hB) (Nat.le_trans hB hb.size) hf)
  have HPOS := Lib.hid (fun (hc : connB (partsV m).length = true) => minV_pos (conn_isC hc))
  have hl15 := minV_len m
  clear h
  generalize minV m = l at *
  generalize connB (partsV m).length = c at *
  have HNO := Lib.hid (fun (h : ¬ affC c l) => affB_no h)
  have HYES := Lib.hid (fun (h : affC c l) => affB_yes h)
  generalize hr : affB c l = r at *
  have HRR := Lib.hid hr; clear hr
  generalize hln : l.length = L at *
  have HLN := Lib.hid hln; clear hln
  go_enter Try.func21, Try.ntmps21
  go_wp2_with fail
  refine HPM.out.mono ?_
  rintro e w1 ⟨x, rfl, hx, hb1⟩
  have HB1 := Lib.hid hb1
  have hs1 := hb1.size
  obtain ⟨xa, xcap, rfl⟩ := hx.1.slice
  rw [HLN.out] at hx ⊢
  have HX := Lib.hid hx.1
  clear hx hb1
  go_wp2_with fail
  refine (HCO.out w1 HB1.out).mono ?_
  rintro e w2 ⟨rfl, hb2⟩
  have HB2 := Lib.hid (HB1.out.trans (hb2.mono hs1))
  have HX2 := Lib.hid (HX.out.step hb2)
  clear hb2
  by_cases hc : c = true
  · have hp := HPOS.out hc
    obtain ⟨K, hK⟩ : ∃ K, L = K + 1 := ⟨L - 1, by omega⟩
    have hKL : K < L := by omega
    have hsub : (L : Int) - 1 = (K : Int) := by omega
    have hKI : (K : Int) < (L : Int) := by omega
    have HK := Lib.hid hK; clear hK
    obtain ⟨lb, loff, rfl, hlb, hlc⟩ := RowB.getD HX2.out.rowB (j := K) hKL
    have HCT := Lib.hid hc
    rw [hc]
    clear hc
    by_cases hz : l.getD K 0 = 0
    · have hz' : (l.getD K 0 != 0) = false := by rw [bne_eq_false_iff_eq]; exact hz
      rw [hz] at hlc
      have HZ := Lib.hid hz
      clear hz hz'
      go_wp2_with fail
      clear hlc hsub hKI
      go_loopw [4] (fun i wr => ∃ t : Nat, t + 1 ≤ L ∧ i = .int .i64 t ∧ wr = w2 ∧ ∀ j, j < t → 0 < l.getD j 0) (fun i _ => L - (intOf i).toNat)
      case atStart => exact ⟨0, by omega, rfl, rfl, fun j hj => by omega⟩
      case round =>
        obtain ⟨t, ht, rfl, rfl, hpos⟩ := hrel
        have HP := Lib.hid hpos; clear hpos
        by_cases hlt : t + 1 < L
        · have hlt' : decide (t + 1 < L) = true := decide_eq_true hlt
          have htL : t < L := by omega
          have hlc := RowB.prev HX2.out.rowB (j := t) htL
          by_cases hp0 : l.getD t 0 ≤ 0
          · have HQ := Lib.hid (HNO.out (fun h => by have := h.2.2 t (by rw [HLN.out]; exact hlt); omega))
            have hneg : decide (l.getD t 0 ≤ 0) = true := decide_eq_true hp0
            generalize l.getD t 0 = z at *
            go_wp2_with fail
            go_ret
            exact ⟨ret_boolean HQ.out.symm, HB2.out⟩
          · have hpos' : ∀ j, j < t + 1 → 0 < l.getD j 0 := fun j hj => by
              rcases Nat.lt_or_ge j t with h' | h'
              · exact HP.out j h'
              · obtain rfl : j = t := by omega
                omega
            have HP' := Lib.hid hpos'; clear hpos'
            have hneg : decide (l.getD t 0 ≤ 0) = false := decide_eq_false hp0
            generalize l.getD t 0 = z at *
            go_wp2_with fail
            exact ⟨⟨t + 1, by omega, by go_num, trivial, HP'.out⟩, by simp [intOf]; omega⟩
        · have hlt' : decide (t + 1 < L) = false := decide_eq_false hlt
          have HQ := Lib.hid (HYES.out ⟨HCT.out, by rw [HLN.out, show L - 1 = K by have := HK.out; omega]; exact HZ.out, fun i hi => HP.out i (by rw [HLN.out] at hi; omega)⟩)
          go_wp2_with fail
          go_ret
          exact ⟨ret_boolean HQ.out.symm, HB2.out⟩
    · have hz' : (l.getD K 0 != 0) = true := by rw [bne_iff_ne]; exact hz
      have HQ := Lib.hid (HNO.out (fun h => hz (by have h1 := h.2.1; rw [HLN.out, show L - 1 = K by have := HK.out; omega] at h1; exact h1)))
      clear hz
      generalize l.getD K 0 = z at *
      go_wp2_with fail
      go_ret
      exact ⟨ret_boolean HQ.out.symm, HB2.out⟩
  · have hc' : c = false := by simpa using hc
    have HQ := Lib.hid (HNO.out (fun h => hc h.1))
    rw [hc']
    clear hc hc'
    go_wp2_with fail
    go_ret
    exact ⟨ret_boolean HQ.out.symm, HB2.out⟩
end Go.Proofs.Ytgpcacgafbhhdaa
