/-
  The program's IsAffine: what the call returns.
-/
import Derived.Test.YtgpcacgafbhhdaaWitI
import Derived.Test.YtgpcacgafbhhdaaAff
namespace Go.Proofs.Ytgpcacgafbhhdaa
open Go.RowKit

/-- The determinant is the last minor. -/
theorem setK_all : ∀ n, n ≤ 4 → 1 ≤ n → setK (2 ^ n - 1 - 1 + 1) n = List.range n := by decide +kernel
theorem pick_all {m : List (List Int)} (hI : IsC m) : pick m (intL (List.range m.length)) = m := by
  unfold pick
  rw [intL_len, List.length_range]
  apply List.ext_getElem
  · rw [fullF_len]
  · intro i h1 h2
    have hrow := hI.1 i h2
    have e : (fullF (ptsF m (intL (List.range m.length))) m.length)[i] = rowF (ptsF m (intL (List.range m.length))) m.length i := by simp [fullF]
    rw [e]
    have hg := getD_row m i h2
    apply List.ext_getElem
    · rw [rowF_len, ← hg, hrow]
    · intro j h3 h4
      have hj : j < m.length := by rw [rowF_len] at h3; exact h3
      have e2 : (rowF (ptsF m (intL (List.range m.length))) m.length i)[j] = ptsF m (intL (List.range m.length)) i j := by simp [rowF]
      rw [e2]
      unfold ptsF
      rw [intL_get _ _ (by rw [List.length_range]; exact h2), intL_get _ _ (by rw [List.length_range]; exact hj)]
      have ri : (List.range m.length).getD i 0 = i := by simp [List.getD, h2]
      have rj : (List.range m.length).getD j 0 = j := by simp [List.getD, hj]
      rw [ri, rj]
      show entry m i j = _
      unfold entry
      rw [hg]
      simp [List.getD, h4]
theorem minP_last {m : List (List Int)} (hI : IsC m) : minP m (2 ^ m.length - 1 - 1) = detF m.length m := by
  unfold minP
  rw [setK_all m.length hI.2.2.2 hI.2.2.1, pick_all hI, List.length_range]
/-- Connected, determinant 0, and the witness is the set of all points. -/
theorem affB_wit {m : List (List Int)} (hI : IsC m) (c : Bool) : affB c (minV m) = (c && ((detV m == 0) && decide ((witV m).length = m.length))) := by
  have hn1 := hI.2.2.1
  have hn4 := hI.2.2.2
  have hN : 1 ≤ 2 ^ m.length - 1 := by
    rcases (show m.length = 1 ∨ m.length = 2 ∨ m.length = 3 ∨ m.length = 4 by omega) with e | e | e | e <;> rw [e] <;> decide
  have hget : ∀ t, t < 2 ^ m.length - 1 → (minV m).getD t 0 = minP m t := fun t ht => by rw [minV_yes hI, minK_get _ _ _ ht]
  have hlen : (minV m).length = 2 ^ m.length - 1 := by rw [minV_yes hI, minK_len]
  have hlast : (minV m).getD ((minV m).length - 1) 0 = detV m := by rw [hlen, hget _ (by omega), minP_last hI, detV_yes hI]
  have hw0 : ∀ t, t < 2 ^ m.length - 1 → (setK (t + 1) m.length).length = m.length → t = 2 ^ m.length - 1 - 1 := by
    have key : ∀ n, n ≤ 4 → 1 ≤ n → ∀ t, t < 2 ^ n - 1 → (setK (t + 1) n).length = n → t = 2 ^ n - 1 - 1 := by decide +kernel
    exact key m.length hn4 hn1
  by_cases hA : affC c (minV m)
  · rw [affB_yes hA]
    obtain ⟨h1, h2, h3⟩ := hA
    rw [hlast] at h2
    have hnone : ∀ k, k ≤ 2 ^ m.length - 1 - 1 → witT m k = none := by
      intro k
      induction k with
      | zero => intro _; rfl
      | succ k ih =>
        intro hk
        refine witT_step_no (ih (by omega)) ?_
        have := h3 k (by rw [hlen]; omega)
        rw [hget k (by omega)] at this
        omega
    have hhit : witT m (2 ^ m.length - 1) = some (2 ^ m.length - 1 - 1) := witT_hit (hnone _ (Nat.le_refl _)) (by rw [minP_last hI, ← detV_yes hI, h2]; decide) _ (by omega)
    have hwl : (witV m).length = m.length := by rw [witV_hit hI hhit, intL_len, setK_all m.length hn4 hn1, List.length_range]
    rw [h1, h2, hwl]; simp
  · rw [affB_no hA]
    symm
    rw [Bool.eq_false_iff]
    intro hc
    rw [Bool.and_eq_true, Bool.and_eq_true, decide_eq_true_eq, beq_iff_eq] at hc
    obtain ⟨h1, h2, h3⟩ := hc
    refine hA ⟨h1, by rw [hlast]; exact h2, fun i hi => ?_⟩
    rw [hlen] at hi
    rw [hget i (by omega)]
    cases ht : witT m (2 ^ m.length - 1) with
    | none =>
      rw [witV_none hI ht] at h3
      simp at h3
      omega
    | some t =>
      rw [witV_hit hI ht, intL_len] at h3
      have ht2 : t < 2 ^ m.length - 1 := by
        have := List.mem_of_find?_eq_some ht
        exact List.mem_range.1 this
      have hte := hw0 t ht2 h3
      have hfind := ht
      unfold witT at hfind
      rw [List.find?_range_eq_some] at hfind
      have := hfind.2.2 i (by omega)
      simpa using this

set_option maxHeartbeats 2000000 in
set_option maxRecDepth 100000 in
theorem affi_any (B : Nat) (v : Value) (m : List (List Int)) (w : World) (h : MatB B w v m) (hB : B ≤ w.heap.size) (hf : RowsFit m) :
    Calls Try.prog 22 #[v] w fun e w' => e = .returned (.bool (affB (connB (partsV m).length) (minV m))) ∧ Below w.heap.size w w' := by
  have HCO := Lib.hid (coni_any B v m w h hB hf)
  have HDE := Lib.hid (fun w1 (hb : Below w.heap.size w w1) => deti_any B v m w1 (h.below hb hB) (Nat.le_trans hB hb.size) hf)
  have HWI := Lib.hid (fun w1 (hb : Below w.heap.size w w1) => witi_any B v m w1 (h.below hb hB) (Nat.le_trans hB hb.size) hf)
  by_cases hc : connB (partsV m).length = true
  · have hI := conn_isC hc
    have HV := Lib.hid (affB_wit hI (connB (partsV m).length))
    rw [hc] at HCO HV ⊢
    have hl := hf.1
    unfold maxLen at hl
    obtain ⟨a, cap, rfl⟩ := h.slice
    clear h hI hc
    generalize affB true (minV m) = r at *
    by_cases hd : detV m = 0
    · rw [hd] at HV HDE
      generalize hln : m.length = n at *
      go_enter Try.func22, Try.ntmps22
      go_wp2_with fail
      refine HCO.out.mono ?_
      rintro e w1 ⟨rfl, hb1⟩
      have HB1 := Lib.hid hb1; clear hb1
      go_wp2_with fail
      refine (HDE.out w1 HB1.out).mono ?_
      rintro e w2 ⟨rfl, hb2⟩
      have HB2 := Lib.hid (HB1.out.trans (hb2.mono HB1.out.size)); clear hb2
      go_wp2_with fail
      refine (HWI.out w2 HB2.out).mono ?_
      rintro e w3 ⟨x, rfl, hx, hb3⟩
      obtain ⟨xa, xcap, rfl⟩ := hx.1.slice
      have HB3 := Lib.hid (HB2.out.trans (hb3.mono HB2.out.size))
      clear hx hb3
      generalize hpl : (witV m).length = L at *
      have HLL := Lib.hid (show ((L : Int) == (n : Int)) = decide (L = n) by
        by_cases e : L = n
        · subst e; simp
        · rw [decide_eq_false e, beq_eq_false_iff_ne]; omega)
      clear hpl
      go_wp2_with fail
      go_ret
      exact ⟨ret_boolean (by rw [HV.out]; exact HLL.out), HB3.out⟩
    · have hd' : (detV m == 0) = false := by rw [beq_eq_false_iff_ne]; exact hd
      rw [hd'] at HV
      generalize detV m = d at *
      generalize hln : m.length = n at *
      go_enter Try.func22, Try.ntmps22
      go_wp2_with fail
      refine HCO.out.mono ?_
      rintro e w1 ⟨rfl, hb1⟩
      have HB1 := Lib.hid hb1; clear hb1
      go_wp2_with fail
      refine (HDE.out w1 HB1.out).mono ?_
      rintro e w2 ⟨rfl, hb2⟩
      have HB2 := Lib.hid (HB1.out.trans (hb2.mono HB1.out.size)); clear hb2
      go_wp2_with fail
      go_ret
      exact ⟨ret_boolean (by rw [HV.out]; rfl), HB2.out⟩
  · have hc' : connB (partsV m).length = false := by simpa using hc
    have HV := Lib.hid (affB_no (c := false) (l := minV m) (fun h => absurd h.1 (by decide)))
    rw [hc'] at HCO ⊢
    clear h hc hc'
    generalize affB false (minV m) = r at *
    go_enter Try.func22, Try.ntmps22
    go_wp2_with fail
    refine HCO.out.mono ?_
    rintro e w1 ⟨rfl, hb1⟩
    have HB1 := Lib.hid hb1; clear hb1
    go_wp2_with fail
    go_ret
    exact ⟨ret_boolean HV.out.symm, HB1.out⟩
end Go.Proofs.Ytgpcacgafbhhdaa
