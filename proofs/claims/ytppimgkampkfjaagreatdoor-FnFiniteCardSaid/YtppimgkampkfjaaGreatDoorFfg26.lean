/-
  The program's WitnessOf and IsFinite: what the calls return.
  The program's IsAffine: what the call returns.
  Being connected does not change when the points are taken in another order; a connected diagram is one part with all points, and has a name; the symmetries are closed under composition (no walk here).
  The law's comparisons of lists and of lists of lists: what the calls return.
-/
import Derived.Test.YtppimgkampkfjaaGreatDoorFfg25
import Derived.Test.YtppimgkampkfjaaGreatDoorFfg15
import Derived.Test.YtppimgkampkfjaaGreatDoorFfg17
import Derived.Test.YtppimgkampkfjaaGreatDoorFfg24
import Derived.Test.YtppimgkampkfjaaGreatDoorFfg01
namespace Go.Proofs.YtppimgkampkfjaaGreatDoor
open Go.RowKit

theorem minK_get (m : List (List Int)) (k t : Nat) (h : t < k) : (minK m k).getD t 0 = minP m t := by simp [minK, List.getD, h]
set_option maxHeartbeats 4000000 in
set_option maxRecDepth 100000 in
theorem witi_any (B : Nat) (v : Value) (m : List (List Int)) (w : World) (h : MatB B w v m) (hB : B ≤ w.heap.size) (hf : RowsFit m) :
    Calls Tryz.prog 57 #[v] w (MakesS w (witV m)) := by
  have HPM := Lib.hid (pmini_any B v m w h hB hf)
  obtain ⟨L, hL, hL15, hget, hhit, hnone⟩ : ∃ L, (minV m).length = L ∧ L ≤ 15 ∧ (∀ t, t < L → (minV m).getD t 0 = minP m t) ∧ (∀ t, witT m t = none → minP m t ≤ 0 → t < L → witV m = intL (setK (t + 1) 4) ∧ t + 1 < 16) ∧ (witT m L = none → witV m = []) := by
    by_cases hI : IsC m
    · have hn4 := hI.2.2.2
      have h15 := two_pow_le m.length hn4
      refine ⟨2 ^ m.length - 1, by rw [minV_yes hI, minK_len], h15, fun t ht => by rw [minV_yes hI, minK_get _ _ _ ht], fun t h1 h2 h3 => ⟨?_, by omega⟩, fun h1 => witV_none hI h1⟩
      rw [witV_hit hI (witT_hit h1 h2 _ h3), setK_four m.length hn4 (t + 1) (by omega)]
    · refine ⟨0, by rw [minV_no hI]; rfl, by omega, fun t ht => absurd ht (Nat.not_lt_zero _), fun t _ _ h => absurd h (Nat.not_lt_zero _), fun _ => witV_no hI⟩
  have HL := Lib.hid hL; have HGET := Lib.hid hget; have HHIT := Lib.hid hhit; have HNONE := Lib.hid hnone
  clear h hL hget hhit hnone
  generalize minV m = M at *
  generalize witV m = R at *
  go_enter Tryz.func57, Tryz.ntmps57
  go_wp2_with fail
  refine HPM.out.mono ?_
  rintro e w1 ⟨x, rfl, hx, hb1⟩
  obtain ⟨xa, xcap, rfl⟩ := hx.1.slice
  rw [HL.out] at hx ⊢
  have HX := Lib.hid hx.1
  have HB1 := Lib.hid hb1
  have hs1 := hb1.size
  clear hx hb1
  go_wp2_with fail
  go_loopw [8] (fun i wr => ∃ t : Nat, t ≤ L ∧ i = .int .i64 t ∧ wr = w1 ∧ Hid (witT m t = none)) (fun i _ => L - (intOf i).toNat)
  case atStart => exact ⟨0, Nat.zero_le _, rfl, rfl, Lib.hid rfl⟩
  case round =>
    obtain ⟨t, ht, rfl, rfl, hse⟩ := hrel
    by_cases hlt : t < L
    · have hlt' : decide (t < L) = true := decide_eq_true hlt
      obtain ⟨lb, loff, rfl, hlb, hlc⟩ := HX.out.rowB.getD (j := t) hlt
      rw [HGET.out t hlt] at hlc
      by_cases hneg : minP m t ≤ 0
      · obtain ⟨hR, h16⟩ := HHIT.out t hse.out hneg hlt
        have hneg' : decide (minP m t ≤ 0) = true := decide_eq_true hneg
        have hptb := ptb_any (t + 1) wr h16
        rw [← hR, show ((t + 1 : Nat) : Int) = (t : Int) + 1 by omega] at hptb
        have HPTB := Lib.hid hptb
        clear hR hptb hneg
        generalize minP m t = mp at *
        go_wp2_with fail
        refine HPTB.out.mono ?_
        rintro e w4 ⟨y, rfl, hy, hb4⟩
        have HY := Lib.hid (hy.1.mono hs1 (Nat.le_refl _))
        have HB4 := Lib.hid (HB1.out.trans (hb4.mono hs1))
        clear hy hb4
        go_wp2_with fail
        go_ret
        exact ⟨_, rfl, ⟨HY.out, Nat.le_refl _⟩, HB4.out⟩
      · have HST := Lib.hid (witT_step_no hse.out hneg)
        have hneg' : decide (minP m t ≤ 0) = false := decide_eq_false hneg
        generalize minP m t = mp at *
        go_wp2_with fail
        exact ⟨⟨t + 1, by omega, by go_num, trivial, HST⟩, by simp [intOf]; omega⟩
    · obtain rfl : L = t := by omega
      have hlt' : decide (L < L) = false := by simp
      have HQ := Lib.hid (HNONE.out hse.out)
      go_wp2_with fail
      go_ret
      exact makesS_nil HQ.out (RowI.nil _ _ _) HB1.out

set_option maxHeartbeats 1000000 in
set_option maxRecDepth 100000 in
theorem fini_any (B : Nat) (v : Value) (m : List (List Int)) (w : World) (h : MatB B w v m) (hB : B ≤ w.heap.size) (hf : RowsFit m) :
    Calls Tryz.prog 38 #[v] w fun e w' => e = .returned (.bool (finB m)) ∧ Below w.heap.size w w' := by
  have HWI := Lib.hid (fun w1 (hb : Below w.heap.size w w1) => witi_any B v m w1 (h.below hb hB) (Nat.le_trans hB hb.size) hf)
  have HR := Lib.hid h; clear h
  by_cases hI : IsC m
  · have HC := Lib.hid (isB_yes hI)
    have HV := Lib.hid (finB_yes hI)
    have HL := Lib.hid (len_int0 (witV m).length)
    clear hI
    generalize finB m = c at *
    go_enter Tryz.func38, Tryz.ntmps38
    go_wp2_with fail
    refine (icm_w B _ m true HC.out _ HR.out hf).mono ?_
    rintro e w1 ⟨rfl, hb1⟩
    have HB1 := Lib.hid hb1; clear hb1
    go_wp2_with fail
    refine (HWI.out w1 HB1.out).mono ?_
    rintro e w2 ⟨x, rfl, hx, hb2⟩
    obtain ⟨xa, xcap, rfl⟩ := hx.1.slice
    have HB2 := Lib.hid (HB1.out.trans (hb2.mono HB1.out.size))
    clear hx hb2
    generalize hpl : (witV m).length = L at *
    have HPL := Lib.hid hpl; clear hpl
    go_wp2_with fail
    go_ret
    exact ⟨ret_boolean (by rw [HV.out]; exact HL.out), HB2.out⟩
  · have HC := Lib.hid (isB_no hI)
    have HV := Lib.hid (finB_no hI)
    clear hI
    generalize finB m = c at *
    go_enter Tryz.func38, Tryz.ntmps38
    go_wp2_with fail
    refine (icm_w B _ m false HC.out _ HR.out hf).mono ?_
    rintro e w1 ⟨rfl, hb1⟩
    have HB1 := Lib.hid hb1; clear hb1
    go_wp2_with fail
    go_ret
    exact ⟨ret_boolean HV.out.symm, HB1.out⟩
end Go.Proofs.YtppimgkampkfjaaGreatDoor
namespace Go.Proofs.YtppimgkampkfjaaGreatDoor
open Go.RowKit

/-- The determinant is the last minor. -/
theorem setK_all : ∀ n, n ≤ 4 → 1 ≤ n → setK (2 ^ n - 1 - 1 + 1) n = List.range n := by decide +kernel
theorem pick_all {m : List (List Int)} (hI : IsC m) : pick m (intL (List.range m.length)) = m := by
  unfold pick
  rw [intL_len, List.length_range]
  apply List.ext_getElem
  · rw [fullF_len]
  · intro i h1 h2
    have hrow := hI.1 i h2
    have e : (fullF (ptsF m (intL (List.range m.length))) m.length)[i] = rowF (ptsF m (intL (List.range m.length))) m.length i := by simp [fullF]
    rw [e]
    have hg := getD_row m i h2
    apply List.ext_getElem
    · rw [rowF_len, ← hg, hrow]
    · intro j h3 h4
      have hj : j < m.length := by rw [rowF_len] at h3; exact h3
      have e2 : (rowF (ptsF m (intL (List.range m.length))) m.length i)[j] = ptsF m (intL (List.range m.length)) i j := by simp [rowF]
      rw [e2]
      unfold ptsF
      rw [intL_get _ _ (by rw [List.length_range]; exact h2), intL_get _ _ (by rw [List.length_range]; exact hj)]
      have ri : (List.range m.length).getD i 0 = i := by simp [List.getD, h2]
      have rj : (List.range m.length).getD j 0 = j := by simp [List.getD, hj]
      rw [ri, rj]
      show entry m i j = _
      unfold entry
      rw [hg]
      simp [List.getD, h4]
theorem minP_last {m : List (List Int)} (hI : IsC m) : minP m (2 ^ m.length - 1 - 1) = detF m.length m := by
  unfold minP
  rw [setK_all m.length hI.2.2.2 hI.2.2.1, pick_all hI, List.length_range]
/-- Connected, determinant 0, and the witness is the set of all points. -/
theorem affB_wit {m : List (List Int)} (hI : IsC m) (c : Bool) : affB c (minV m) = (c && ((detV m == 0) && decide ((witV m).length = m.length))) := by
  have hn1 := hI.2.2.1
  have hn4 := hI.2.2.2
  have hN : 1 ≤ 2 ^ m.length - 1 := by
    rcases (show m.length = 1 ∨ m.length = 2 ∨ m.length = 3 ∨ m.length = 4 by omega) with e | e | e | e <;> rw [e] <;> decide
  have hget : ∀ t, t < 2 ^ m.length - 1 → (minV m).getD t 0 = minP m t := fun t ht => by rw [minV_yes hI, minK_get _ _ _ ht]
  have hlen : (minV m).length = 2 ^ m.length - 1 := by rw [minV_yes hI, minK_len]
  have hlast : (minV m).getD ((minV m).length - 1) 0 = detV m := by rw [hlen, hget _ (by omega), minP_last hI, detV_yes hI]
  have hw0 : ∀ t, t < 2 ^ m.length - 1 → (setK (t + 1) m.length).length = m.length → t = 2 ^ m.length - 1 - 1 := by
    have key : ∀ n, n ≤ 4 → 1 ≤ n → ∀ t, t < 2 ^ n - 1 → (setK (t + 1) n).length = n → t = 2 ^ n - 1 - 1 := by decide +kernel
    exact key m.length hn4 hn1
  by_cases hA : affC c (minV m)
  · rw [affB_yes hA]
    obtain ⟨h1, h2, h3⟩ := hA
    rw [hlast] at h2
    have hnone : ∀ k, k ≤ 2 ^ m.length - 1 - 1 → witT m k = none := by
      intro k
      induction k with
      | zero => intro _; rfl
      | succ k ih =>
        intro hk
        refine witT_step_no (ih (by omega)) ?_
        have := h3 k (by rw [hlen]; omega)
        rw [hget k (by omega)] at this
        omega
    have hhit : witT m (2 ^ m.length - 1) = some (2 ^ m.length - 1 - 1) := witT_hit (hnone _ (Nat.le_refl _)) (by rw [minP_last hI, ← detV_yes hI, h2]; decide) _ (by omega)
    have hwl : (witV m).length = m.length := by rw [witV_hit hI hhit, intL_len, setK_all m.length hn4 hn1, List.length_range]
    rw [h1, h2, hwl]; simp
  · rw [affB_no hA]
    symm
    rw [Bool.eq_false_iff]
    intro hc
    rw [Bool.and_eq_true, Bool.and_eq_true, decide_eq_true_eq, beq_iff_eq] at hc
    obtain ⟨h1, h2, h3⟩ := hc
    refine hA ⟨h1, by rw [hlast]; exact h2, fun i hi => ?_⟩
    rw [hlen] at hi
    rw [hget i (by omega)]
    cases ht : witT m (2 ^ m.length - 1) with
    | none =>
      rw [witV_none hI ht] at h3
      simp at h3
      omega
    | some t =>
      rw [witV_hit hI ht, intL_len] at h3
      have ht2 : t < 2 ^ m.length - 1 := by
        have := List.mem_of_find?_eq_some ht
        exact List.mem_range.1 this
      have hte := hw0 t ht2 h3
      have hfind := ht
      unfold witT at hfind
      rw [List.find?_range_eq_some] at hfind
      have := hfind.2.2 i (by omega)
      simpa using this

set_option maxHeartbeats 2000000 in
set_option maxRecDepth 100000 in
theorem affi_any (B : Nat) (v : Value) (m : List (List Int)) (w : World) (h : MatB B w v m) (hB : B ≤ w.heap.size) (hf : RowsFit m) :
    Calls Tryz.prog 39 #[v] w fun e w' => e = .returned (.bool (affB (connB (partsV m).length) (minV m))) ∧ Below w.heap.size w w' := by
  have HCO := Lib.hid (coni_any B v m w h hB hf)
  have HDE := Lib.hid (fun w1 (hb : Below w.heap.size w w1) => deti_any B v m w1 (h.below hb hB) (Nat.le_trans hB hb.size) hf)
  have HWI := Lib.hid (fun w1 (hb : Below w.heap.size w w1) => witi_any B v m w1 (h.below hb hB) (Nat.le_trans hB hb.size) hf)
  by_cases hc : connB (partsV m).length = true
  · have hI := conn_isC hc
    have HV := Lib.hid (affB_wit hI (connB (partsV m).length))
    rw [hc] at HCO HV ⊢
    have hl := hf.1
    unfold maxLen at hl
    obtain ⟨a, cap, rfl⟩ := h.slice
    clear h hI hc
    generalize affB true (minV m) = r at *
    by_cases hd : detV m = 0
    · rw [hd] at HV HDE
      generalize hln : m.length = n at *
      go_enter Tryz.func39, Tryz.ntmps39
      go_wp2_with fail
      refine HCO.out.mono ?_
      rintro e w1 ⟨rfl, hb1⟩
      have HB1 := Lib.hid hb1; clear hb1
      go_wp2_with fail
      refine (HDE.out w1 HB1.out).mono ?_
      rintro e w2 ⟨rfl, hb2⟩
      have HB2 := Lib.hid (HB1.out.trans (hb2.mono HB1.out.size)); clear hb2
      go_wp2_with fail
      refine (HWI.out w2 HB2.out).mono ?_
      rintro e w3 ⟨x, rfl, hx, hb3⟩
      obtain ⟨xa, xcap, rfl⟩ := hx.1.slice
      have HB3 := Lib.hid (HB2.out.trans (hb3.mono HB2.out.size))
      clear hx hb3
      generalize hpl : (witV m).length = L at *
      have HLL := Lib.hid (show ((L : Int) == (n : Int)) = decide (L = n) by
        by_cases e : L = n
        · subst e; simp
        · rw [decide_eq_false e, beq_eq_false_iff_ne]; omega)
      clear hpl
      go_wp2_with fail
      go_ret
      exact ⟨ret_boolean (by rw [HV.out]; exact HLL.out), HB3.out⟩
    · have hd' : (detV m == 0) = false := by rw [beq_eq_false_iff_ne]; exact hd
      rw [hd'] at HV
      generalize detV m = d at *
      generalize hln : m.length = n at *
      go_enter Tryz.func39, Tryz.ntmps39
      go_wp2_with fail
      refine HCO.out.mono ?_
      rintro e w1 ⟨rfl, hb1⟩
      have HB1 := Lib.hid hb1; clear hb1
      go_wp2_with fail
      refine (HDE.out w1 HB1.out).mono ?_
      rintro e w2 ⟨rfl, hb2⟩
      have HB2 := Lib.hid (HB1.out.trans (hb2.mono HB1.out.size)); clear hb2
      go_wp2_with fail
      go_ret
      exact ⟨ret_boolean (by rw [HV.out]; rfl), HB2.out⟩
  · have hc' : connB (partsV m).length = false := by simpa using hc
    have HV := Lib.hid (affB_no (c := false) (l := minV m) (fun h => absurd h.1 (by decide)))
    rw [hc'] at HCO ⊢
    clear h hc hc'
    generalize affB false (minV m) = r at *
    go_enter Tryz.func39, Tryz.ntmps39
    go_wp2_with fail
    refine HCO.out.mono ?_
    rintro e w1 ⟨rfl, hb1⟩
    have HB1 := Lib.hid hb1; clear hb1
    go_wp2_with fail
    go_ret
    exact ⟨ret_boolean HV.out.symm, HB1.out⟩
end Go.Proofs.YtppimgkampkfjaaGreatDoor
namespace Go.Proofs.YtppimgkampkfjaaGreatDoor
open Go.RowKit

/-! ### Connected -/
def perG (n : Nat) (g : Nat → Nat → Bool) (q : List Nat) (i j : Nat) : Bool := if j < n then g (q.getD i 0) (q.getD j 0) else false
def ConnOk (n : Nat) : Prop := ∀ a b c d e f : Bool, ∀ q ∈ ords n, (partsM (grN (grE (perG n (grE a b c d e f) q 0 1) (perG n (grE a b c d e f) q 0 2) (perG n (grE a b c d e f) q 0 3) (perG n (grE a b c d e f) q 1 2) (perG n (grE a b c d e f) q 1 3) (perG n (grE a b c d e f) q 2 3)) n) n n).length = (partsM (grN (grE a b c d e f) n) n n).length
instance (n : Nat) : Decidable (ConnOk n) := by unfold ConnOk; infer_instance
theorem conn_ok1 : ConnOk 1 := by decide +kernel
theorem conn_ok2 : ConnOk 2 := by decide +kernel
theorem conn_ok3 : ConnOk 3 := by decide +kernel
theorem conn_ok4 : ConnOk 4 := by decide +kernel
theorem conn_ok (n : Nat) (h1 : 1 ≤ n) (h4 : n ≤ 4) : ConnOk n := by
  rcases (show n = 1 ∨ n = 2 ∨ n = 3 ∨ n = 4 by omega) with rfl | rfl | rfl | rfl
  · exact conn_ok1
  · exact conn_ok2
  · exact conn_ok3
  · exact conn_ok4
theorem ords_inj : ∀ n, n ≤ 4 → ∀ q ∈ ords n, ∀ i, i < n → ∀ j, j < n → (q.getD i 0 = q.getD j 0 ↔ i = j) := by decide +kernel
theorem nbF_per {a : List (List Int)} {q : List Nat} (hI : IsC a) (hq : q ∈ ords a.length) (hb : (pick a (intL q)).length = a.length) (i j : Nat) (hij : i < j) :
    nbF (pick a (intL q)) i j = perG a.length (grE (nbF a 0 1) (nbF a 0 2) (nbF a 0 3) (nbF a 1 2) (nbF a 1 3) (nbF a 2 3)) q i j := by
  have h4 := hI.2.2.2
  obtain ⟨hql, hqn⟩ := ords_lt a.length h4 q hq
  unfold perG
  by_cases hj : j < a.length
  · rw [if_pos hj, ← nbF_gr hI _ _ (hqn j hj)]
    have he : entry (pick a (intL q)) i j = entry a (q.getD i 0) (q.getD j 0) := by
      rw [pick_eF, fullM_entry _ _ _ _ (by omega) (by omega)]; rfl
    unfold nbF
    rw [he, decide_eq_decide]
    have := ords_inj a.length h4 q hq i (by omega) j hj
    constructor
    · rintro ⟨h1, h2⟩; exact ⟨fun e => h1 (by omega), h2⟩
    · rintro ⟨h1, h2⟩; exact ⟨fun e => h1 (by rw [e]), h2⟩
  · rw [if_neg hj]
    have : entry (pick a (intL q)) i j = 0 := by
      rw [pick_eF]
      unfold entry
      by_cases hi : i < q.length
      · rw [fullM_get _ _ _ hi, List.getD_eq_getElem?_getD, List.getElem?_eq_none (by rw [rowF_len]; omega)]; rfl
      · have e : (fullF (eF a q) q.length).getD i [] = [] := by rw [List.getD_eq_getElem?_getD, List.getElem?_eq_none (by rw [fullF_len]; omega)]; rfl
        rw [e]; simp
    unfold nbF
    exact decide_eq_false (fun hh => hh.2 this)
theorem parts_inv {a : List (List Int)} {q : List Nat} (hI : IsC a) (hq : q ∈ ords a.length) (hB : IsC (pick a (intL q))) (hb : (pick a (intL q)).length = a.length) : (partsV (pick a (intL q))).length = (partsV a).length := by
  rw [partsV_yes hB, partsV_yes hI, List.length_map, List.length_map]
  unfold partsL
  rw [nbG_gr hB, nbG_gr hI, hb, nbF_per hI hq hb 0 1 (by omega), nbF_per hI hq hb 0 2 (by omega), nbF_per hI hq hb 0 3 (by omega), nbF_per hI hq hb 1 2 (by omega), nbF_per hI hq hb 1 3 (by omega), nbF_per hI hq hb 2 3 (by omega)]
  exact conn_ok a.length hI.2.2.1 hI.2.2.2 _ _ _ _ _ _ q hq
/-! ### A connected diagram has a name -/
def OneOk (n : Nat) : Prop := ∀ a b c d e f : Bool, (partsM (grN (grE a b c d e f) n) n n).length = 1 → partsM (grN (grE a b c d e f) n) n n = [List.range n]
instance (n : Nat) : Decidable (OneOk n) := by unfold OneOk; infer_instance
theorem one_ok : ∀ n, n ≤ 4 → 1 ≤ n → OneOk n := by decide +kernel
theorem one_part {m : List (List Int)} (hc : connB (partsV m).length = true) : (partsV m).length = 1 ∧ partK m 0 = m := by
  have hI := conn_isC hc
  have h1 : (partsV m).length = 1 := by
    unfold connB at hc
    simpa using hc
  refine ⟨h1, ?_⟩
  have h2 := h1
  rw [partsV_yes hI, List.length_map] at h2
  have h3 : partsL m = [List.range m.length] := by
    unfold partsL at h2 ⊢
    rw [nbG_gr hI] at h2 ⊢
    exact one_ok m.length hI.2.2.2 hI.2.2.1 _ _ _ _ _ _ h2
  unfold partK
  have hs := part_sub (m := m) (k := 0) (by omega)
  rw [subM_yes hs, partsV_yes hI, h3]
  exact pick_all hI
theorem nameO_some {m : List (List Int)} (hc : connB (partsV m).length = true) : nameO m ≠ [] := by
  obtain ⟨h1, h2⟩ := one_part hc
  unfold nameO
  rw [h1, nameS_succ, h2]
  simp only [if_true, List.nil_append]
  unfold nameP
  cases hn : nameT m 17 with
  | none => simp [hc]
  | some t =>
    have ht : t < 17 := List.mem_range.1 (List.mem_of_find?_eq_some hn)
    exact (show ∀ t, t < 17 → namesL.getD t [] ≠ [] by decide) t ht
/-! ### Symmetries -/
theorem comp_ok : ∀ n, n ≤ 4 → ∀ q ∈ ords n, ∀ r ∈ ords n, mapK q r ∈ ords n := by decide +kernel
theorem selT_mem {m : List (List Int)} {q : List Nat} : q ∈ selT m m (ords m.length).length ↔ q ∈ ords m.length ∧ pick m (intL q) = m := by
  unfold selT
  rw [List.take_length, List.mem_filter]
  unfold selP eqM
  rw [decide_eq_true_eq]
/-- The rows of the symmetries, as lists of points. -/
theorem sym_row {m : List (List Int)} {k : Nat} (hk : k < (obV m m).length) : IsC m ∧ ∃ q ∈ ords m.length, (obV m m).getD k [] = intL q ∧ pick m (intL q) = m := by
  by_cases hI : IsC m
  · refine ⟨hI, ?_⟩
    rw [obV_yes hI] at hk ⊢
    rw [tabL_len] at hk
    rw [tabL_get _ _ hk]
    have hm : (selT m m (ords m.length).length).getD k [] ∈ selT m m (ords m.length).length := by
      simp only [List.getD, hk, List.getElem?_eq_getElem, Option.getD_some]
      exact List.getElem_mem hk
    obtain ⟨h1, h2⟩ := selT_mem.1 hm
    exact ⟨_, h1, rfl, h2⟩
  · rw [obV_no hI] at hk; simp at hk
theorem sym_comp {m : List (List Int)} {q r : List Nat} (hI : IsC m) (hq : q ∈ ords m.length) (hr : r ∈ ords m.length) (h1 : pick m (intL q) = m) (h2 : pick m (intL r) = m) : intL (mapK q r) ∈ obV m m := by
  obtain ⟨hql, hqn⟩ := ords_lt m.length hI.2.2.2 q hq
  obtain ⟨hrl, hrn⟩ := ords_lt m.length hI.2.2.2 r hr
  rw [obV_yes hI]
  unfold tabL
  refine List.mem_map_of_mem (selT_mem.2 ⟨comp_ok m.length hI.2.2.2 q hq r hr, ?_⟩)
  rw [← pick_pick m q r (fun i hi => by rw [hql]; exact hrn i (by omega)), h1, h2]
/-- Where an isomorphism is found. -/
theorem iso_found {a b : List (List Int)} (h : isoB a b = true) : IsC a ∧ IsC b ∧ ∃ q ∈ ords a.length, isoL a b = intL q ∧ pick a (intL q) = b ∧ b.length = a.length := by
  have hne : (obV a b).length ≠ 0 := by
    unfold isoB at h
    simpa using h
  by_cases hg : IsC a ∧ IsC b ∧ a.length = b.length
  · obtain ⟨hI, hJ, hl⟩ := hg
    refine ⟨hI, hJ, ?_⟩
    unfold isoL
    rw [obV_yes hI] at hne ⊢
    rw [tabL_len] at hne
    rw [tabL_get _ _ (by omega)]
    have hm : (selT a b (ords a.length).length).getD 0 [] ∈ selT a b (ords a.length).length := by
      have hk : 0 < (selT a b (ords a.length).length).length := by omega
      simp only [List.getD, hk, List.getElem?_eq_getElem, Option.getD_some]
      exact List.getElem_mem hk
    unfold selT at hm
    rw [List.take_length, List.mem_filter] at hm
    have h2 := hm.2
    unfold selP eqM at h2
    rw [decide_eq_true_eq] at h2
    refine ⟨_, hm.1, ?_, ?_, hl.symm⟩
    · unfold selT; rw [List.take_length]
    · exact h2
  · rw [obV_bad hg] at hne; simp at hne
end Go.Proofs.YtppimgkampkfjaaGreatDoor
namespace Go.Proofs.YtppimgkampkfjaaGreatDoor
open Go.RowKit

set_option maxHeartbeats 1000000 in
theorem smS_any (B : Nat) (v v' : Value) (l l' : List Int) (w : World) (h : RowB B w v l) (h' : RowB B w v' l') (hl : l.length ≤ maxLen) (hl' : l'.length ≤ maxLen) :
    Calls Tryz.prog 35 #[v, v'] w fun e w' => e = .returned (.bool (eqL l l')) ∧ ∃ q, w' = w.drewN q := by
  obtain ⟨a, cap, rfl⟩ := h.slice
  obtain ⟨a', cap', rfl⟩ := h'.slice
  have HR := Lib.hid h; clear h
  have HR' := Lib.hid h'; clear h'
  generalize hn : l.length = n at *
  generalize hn' : l'.length = n' at *
  unfold maxLen at hl hl'
  have HN := Lib.hid hn; clear hn
  have HN' := Lib.hid hn'; clear hn'
  by_cases hlen : n = n'
  · subst hlen
    go_enter Tryz.func35, Tryz.ntmps35
    go_wp2_with fail
    go_loopw [5] (fun i wr => ∃ (k q : Nat), k ≤ n ∧ i = .int .i64 k ∧ wr = w.drewN q ∧ Pre l l' k) (fun i _ => n - (intOf i).toNat)
    case atStart => exact ⟨0, 0, Nat.zero_le _, rfl, rfl, rfl⟩
    case round =>
      obtain ⟨k, q, hk, rfl, rfl, hp⟩ := hrel
      have HP := Lib.hid hp; clear hp
      by_cases hlt : k < n
      · obtain ⟨b, off, hkl, rfl, hb, hc⟩ := HR.out.get hlt
        obtain ⟨b', off', hkl', rfl, hb', hc'⟩ := HR'.out.get hlt
        by_cases he : l[k] = l'[k]
        · have hst := pre_step hkl hkl' HP.out he
          have HST := Lib.hid hst; clear hst
          rw [← he] at hc'
          clear he
          generalize l[k] = x at *
          go_wp2_with fail
          go_quiet (fail)
          go_wp2_with fail
          exact ⟨⟨k + 1, q + nq, by omega, by go_num, rfl, HST.out⟩, by simp [intOf]; omega⟩
        · have hne : ¬ l = l' := fun e => he (by subst e; rfl)
          have hv := eqL_no hne
          have HV := Lib.hid hv; clear hv hne
          generalize hx : l[k] = x at *
          generalize hy : l'[k] = y at *
          have hxy : (x != y) = true := by rw [bne_iff_ne]; exact he
          have hxy' : (x == y) = false := by rw [beq_eq_false_iff_ne]; exact he
          clear hx hy he
          go_wp2_with fail
          go_quiet (fail)
          go_wp2_with fail
          go_ret
          exact ⟨ret_boolean HV.out.symm, q + nq, World.drewN_drewN _ _ _⟩
      · obtain rfl : k = n := by omega
        have heq : l = l' := by
          have h1 := HP.out
          unfold Pre at h1
          rw [List.take_of_length_le (by rw [HN.out]; exact Nat.le_refl _), List.take_of_length_le (by rw [HN'.out]; exact Nat.le_refl _)] at h1
          exact h1
        have hv := eqL_yes heq
        have HV := Lib.hid hv; clear hv heq
        go_wp2_with fail
        go_ret
        exact ⟨ret_boolean HV.out.symm, _, rfl⟩
  · have hne : ¬ l = l' := fun e => hlen (by rw [← HN.out, ← HN'.out, e])
    have hv := eqL_no hne
    have HV := Lib.hid hv; clear hv hne
    have hq : ((n : Int) != (n' : Int)) = true := by rw [bne_iff_ne]; omega
    clear hlen
    go_enter Tryz.func35, Tryz.ntmps35
    go_wp2_with fail
    all_goals go_ret
    all_goals exact ⟨ret_boolean HV.out.symm, 0, rfl⟩

set_option maxHeartbeats 1000000 in
theorem smSS_any (B : Nat) (v v' : Value) (m m' : List (List Int)) (w : World) (h : MatB B w v m) (h' : MatB B w v' m') (hf : RowsFit m) (hf' : RowsFit m') :
    Calls Tryz.prog 12 #[v, v'] w fun e w' => e = .returned (.bool (eqM m m')) ∧ ∃ q, w' = w.drewN q := by
  obtain ⟨a, cap, rfl⟩ := h.slice
  obtain ⟨a', cap', rfl⟩ := h'.slice
  have hl := hf.1
  have hl' := hf'.1
  have HR := Lib.hid h; clear h
  have HR' := Lib.hid h'; clear h'
  have HF := Lib.hid hf; clear hf
  have HF' := Lib.hid hf'; clear hf'
  generalize hn : m.length = n at *
  generalize hn' : m'.length = n' at *
  unfold maxLen at hl hl'
  have HN := Lib.hid hn; clear hn
  have HN' := Lib.hid hn'; clear hn'
  by_cases hlen : n = n'
  · subst hlen
    go_enter Tryz.func12, Tryz.ntmps12
    go_wp2_with fail
    go_loopw [5] (fun i wr => ∃ (k q : Nat), k ≤ n ∧ i = .int .i64 k ∧ wr = w.drewN q ∧ PreM m m' k) (fun i _ => n - (intOf i).toNat)
    case atStart => exact ⟨0, 0, Nat.zero_le _, rfl, rfl, rfl⟩
    case round =>
      obtain ⟨k, q, hk, rfl, rfl, hp⟩ := hrel
      have HP := Lib.hid hp; clear hp
      by_cases hlt : k < n
      · obtain ⟨b, off, hkl, rfl, hb, ra, rcap, hc, hrow⟩ := HR.out.get hlt
        obtain ⟨b', off', hkl', rfl, hb', ra', rcap', hc', hrow'⟩ := HR'.out.get hlt
        have HROW := Lib.hid hrow; clear hrow
        have HROW' := Lib.hid hrow'; clear hrow'
        by_cases he : m[k] = m'[k]
        · have hst := preM_step hkl hkl' HP.out he
          have HST := Lib.hid hst; clear hst
          have hcon : ∀ q, Calls Tryz.prog 35 #[.slice ra m[k].length rcap, .slice ra' m'[k].length rcap'] (w.drewN q) fun e w' => e = .returned (.bool true) ∧ ∃ q', w' = (w.drewN q).drewN q' := fun q =>
            (smS_any B _ _ _ _ (w.drewN q) (HROW.out.drewN q) (HROW'.out.drewN q) (HF.out.2 k hkl) (HF'.out.2 k hkl')).mono fun e w' ⟨h1, h2⟩ => ⟨by rw [h1, eqL_yes he], h2⟩
          have HCON := Lib.hid hcon; clear hcon he
          generalize m[k].length = rn at *
          generalize m'[k].length = rn' at *
          go_wp2_with fail
          go_quiet ((go_at_call 35; exact quiet_more HCON.out _ _))
          go_wp2_with fail
          exact ⟨⟨k + 1, q + nq, by omega, by go_num, rfl, HST.out⟩, by simp [intOf]; omega⟩
        · have hne : ¬ m = m' := fun e => he (by subst e; rfl)
          have hv := eqM_no hne
          have HV := Lib.hid hv; clear hv hne
          have hcon : ∀ q, Calls Tryz.prog 35 #[.slice ra m[k].length rcap, .slice ra' m'[k].length rcap'] (w.drewN q) fun e w' => e = .returned (.bool false) ∧ ∃ q', w' = (w.drewN q).drewN q' := fun q =>
            (smS_any B _ _ _ _ (w.drewN q) (HROW.out.drewN q) (HROW'.out.drewN q) (HF.out.2 k hkl) (HF'.out.2 k hkl')).mono fun e w' ⟨h1, h2⟩ => ⟨by rw [h1, eqL_no he], h2⟩
          have HCON := Lib.hid hcon; clear hcon he
          generalize m[k].length = rn at *
          generalize m'[k].length = rn' at *
          go_wp2_with fail
          go_quiet ((go_at_call 35; exact quiet_more HCON.out _ _))
          go_wp2_with fail
          go_ret
          exact ⟨ret_boolean HV.out.symm, q + nq, World.drewN_drewN _ _ _⟩
      · obtain rfl : k = n := by omega
        have heq : m = m' := by
          have h1 := HP.out
          unfold PreM at h1
          rw [List.take_of_length_le (by rw [HN.out]; exact Nat.le_refl _), List.take_of_length_le (by rw [HN'.out]; exact Nat.le_refl _)] at h1
          exact h1
        have hv := eqM_yes heq
        have HV := Lib.hid hv; clear hv heq
        go_wp2_with fail
        go_ret
        exact ⟨ret_boolean HV.out.symm, _, rfl⟩
  · have hne : ¬ m = m' := fun e => hlen (by rw [← HN.out, ← HN'.out, e])
    have hv := eqM_no hne
    have HV := Lib.hid hv; clear hv hne
    have hq : ((n : Int) != (n' : Int)) = true := by rw [bne_iff_ne]; omega
    clear hlen
    go_enter Tryz.func12, Tryz.ntmps12
    go_wp2_with fail
    all_goals go_ret
    all_goals exact ⟨ret_boolean HV.out.symm, 0, rfl⟩


/-! ### inList -/
def inB2 (T : List (List Int)) (p : List Int) : Bool := decide (p ∈ T)
set_option maxHeartbeats 1000000 in
theorem inl_any (B : Nat) (v v' : Value) (T : List (List Int)) (p : List Int) (w : World) (h : MatB B w v T) (h' : RowB B w v' p) (hf : RowsFit T) (hp : p.length ≤ maxLen) :
    Calls Tryz.prog 43 #[v, v'] w fun e w' => e = .returned (.bool (inB2 T p)) ∧ ∃ q, w' = w.drewN q := by
  obtain ⟨a, cap, rfl⟩ := h.slice
  obtain ⟨a', cap', rfl⟩ := h'.slice
  have hl := hf.1
  have HR := Lib.hid h; clear h
  have HR' := Lib.hid h'; clear h'
  have HF := Lib.hid hf; clear hf
  generalize hn : T.length = n at *
  unfold maxLen at hl
  have HN := Lib.hid hn; clear hn
  have HPL := Lib.hid hp; clear hp
  generalize hpn : p.length = pn at *
  have HPN := Lib.hid hpn; clear hpn
  go_enter Tryz.func43, Tryz.ntmps43
  go_wp2_with fail
  go_loopw [5] (fun i wr => ∃ (k q : Nat), k ≤ n ∧ i = .int .i64 k ∧ wr = w.drewN q ∧ Hid (∀ j (hj : j < T.length), j < k → T[j] ≠ p)) (fun i _ => n - (intOf i).toNat)
  case atStart => exact ⟨0, 0, Nat.zero_le _, rfl, rfl, Lib.hid (fun j _ hj => absurd hj (Nat.not_lt_zero _))⟩
  case round =>
    obtain ⟨k, q, hk, rfl, rfl, hno⟩ := hrel
    by_cases hlt : k < n
    · obtain ⟨b, off, hkl, rfl, hb, ra, rcap, hc, hrow⟩ := HR.out.get hlt
      have HROW := Lib.hid hrow; clear hrow
      have hcon : ∀ c, eqL T[k] p = c → ∀ q, Calls Tryz.prog 35 #[.slice ra T[k].length rcap, .slice a' pn cap'] (w.drewN q) fun e w' => e = .returned (.bool c) ∧ ∃ q', w' = (w.drewN q).drewN q' := fun c hc q =>
        (smS_any B _ _ _ _ (w.drewN q) (HROW.out.drewN q) (HR'.out.drewN q) (HF.out.2 k hkl) (by rw [HPN.out]; exact HPL.out)).mono fun e w' ⟨h1, h2⟩ => ⟨by rw [h1, hc], h2⟩
      by_cases he : T[k] = p
      · have HV := Lib.hid (show inB2 T p = true from decide_eq_true (he ▸ List.getElem_mem hkl))
        have HCON := Lib.hid (hcon true (eqL_yes he))
        clear hcon he
        generalize T[k].length = rn at *
        go_wp2_with fail
        refine (HCON.out _).mono ?_
        rintro e w' ⟨rfl, nq, rfl⟩
        go_wp2_with fail
        go_ret
        exact ⟨ret_boolean HV.out.symm, q + nq, rfl⟩
      · have HCON := Lib.hid (hcon false (eqL_no he))
        have HNO := Lib.hid (show ∀ j (hj : j < T.length), j < k + 1 → T[j] ≠ p from fun j hj hjk => by
          rcases Nat.lt_or_ge j k with h' | h'
          · exact hno.out j hj h'
          · obtain rfl : j = k := by omega
            exact he)
        clear hcon he
        generalize T[k].length = rn at *
        go_wp2_with fail
        refine (HCON.out _).mono ?_
        rintro e w' ⟨rfl, nq, rfl⟩
        go_wp2_with fail
        exact ⟨⟨k + 1, q + nq, by omega, by go_num, rfl, HNO⟩, by simp [intOf]; omega⟩
    · obtain rfl : k = n := by omega
      have HV := Lib.hid (show inB2 T p = false from decide_eq_false (fun hm => by
        obtain ⟨j, hj, he⟩ := List.getElem_of_mem hm
        exact hno.out j hj (by rw [← HN.out]; exact hj) he))
      go_wp2_with fail
      go_ret
      exact ⟨ret_boolean HV.out.symm, _, rfl⟩
end Go.Proofs.YtppimgkampkfjaaGreatDoor
