/-
  IsConnected and HasCycle of the model and of the program: what each call returns.
-/
import Derived.Test.YtomciameeodpoaaParts
namespace Go.Proofs.Ytomciameeodpoaa
open Go.RowKit

def connB (m : Nat) : Bool := decide (m = 1)
theorem connB_int (L : Nat) : ((L : Int) == 1) = connB L := by
  unfold connB
  by_cases h : L = 1
  · subst h; rfl
  · rw [decide_eq_false h, beq_eq_false_iff_ne]; omega

set_option maxHeartbeats 1000000 in
set_option maxRecDepth 100000 in
theorem cons_any (B : Nat) (v : Value) (m : List (List Int)) (w : World) (h : MatB B w v m) (hB : B ≤ w.heap.size) (hf : RowsFit m) :
    Calls Try.prog 26 #[v] w fun e w' => e = .returned (.bool (connB (partsV m).length)) ∧ Below w.heap.size w w' := by
  have HL := Lib.hid (connB_int (partsV m).length)
  have HP := Lib.hid (parts_any B v m w h hB hf)
  go_enter Try.func26, Try.ntmps26
  go_wp2_with fail
  refine HP.out.mono ?_
  rintro e w2 ⟨x, rfl, hx, hb⟩
  obtain ⟨xa, xcap, rfl⟩ := hx.1.slice
  have HB := Lib.hid hb
  clear hx hb
  generalize hpl : (partsV m).length = L at *
  have HPL := Lib.hid hpl; clear hpl
  go_wp2_with fail
  go_ret
  exact ⟨ret_boolean (by rw [HPL.out]; exact HL.out), HB.out⟩

set_option maxHeartbeats 1000000 in
set_option maxRecDepth 100000 in
theorem coni_any (B : Nat) (v : Value) (m : List (List Int)) (w : World) (h : MatB B w v m) (hB : B ≤ w.heap.size) (hf : RowsFit m) :
    Calls Try.prog 27 #[v] w fun e w' => e = .returned (.bool (connB (partsV m).length)) ∧ Below w.heap.size w w' := by
  have HL := Lib.hid (connB_int (partsV m).length)
  have HP := Lib.hid (parti_any B v m w h hB hf)
  go_enter Try.func27, Try.ntmps27
  go_wp2_with fail
  refine HP.out.mono ?_
  rintro e w2 ⟨x, rfl, hx, hb⟩
  obtain ⟨xa, xcap, rfl⟩ := hx.1.slice
  have HB := Lib.hid hb
  clear hx hb
  generalize hpl : (partsV m).length = L at *
  have HPL := Lib.hid hpl; clear hpl
  go_wp2_with fail
  go_ret
  exact ⟨ret_boolean (by rw [HPL.out]; exact HL.out), HB.out⟩

/-! ### HasCycle -/
def cntK (E : Nat → Nat → Bool) (k j : Nat) : Nat := ((List.range j).filter (E k)).length
theorem cntK_le (E : Nat → Nat → Bool) (k j : Nat) : cntK E k j ≤ j := Nat.le_trans (List.length_filter_le _ _) (by rw [List.length_range]; exact Nat.le_refl _)
theorem cntK_yes {E : Nat → Nat → Bool} {k j : Nat} (h : E k j = true) : cntK E k (j + 1) = cntK E k j + 1 := by
  unfold cntK
  rw [List.range_succ, List.filter_append]
  simp [h]
theorem cntK_no {E : Nat → Nat → Bool} {k j : Nat} (h : E k j = false) : cntK E k (j + 1) = cntK E k j := by
  unfold cntK
  rw [List.range_succ, List.filter_append]
  simp [h]
theorem edgesN_succ (E : Nat → Nat → Bool) (k : Nat) : edgesN E (k + 1) = edgesN E k + cntK E k k := by
  unfold edgesN cntK
  rw [List.range_succ, List.map_append, List.sum_append]
  simp
theorem edgesN_le (E : Nat → Nat → Bool) (k : Nat) (hk : k ≤ 5) : edgesN E k ≤ 4 * k := by
  induction k with
  | zero => exact Nat.le_refl _
  | succ k ih =>
    rw [edgesN_succ]
    have h1 := ih (by omega)
    have h2 := cntK_le E k k
    omega
noncomputable def endsV (m : List (List Int)) (k : Nat) : Nat := ((List.range k).map fun i => (nbs m ((i : Nat) : Int)).length).sum
theorem endsV_succ (m : List (List Int)) (k : Nat) : endsV m (k + 1) = endsV m k + (nbs m (k : Int)).length := by
  unfold endsV
  rw [List.range_succ, List.map_append, List.sum_append]
  simp
theorem endsV_bad {m : List (List Int)} (h : ¬ IsC m) (k : Nat) : endsV m k = 0 := by
  induction k with
  | zero => rfl
  | succ k ih => rw [endsV_succ, ih, nbs_no (fun hh => h hh.1)]; rfl
theorem endsV_le {m : List (List Int)} (k : Nat) (hk : k ≤ m.length) : endsV m k ≤ 16 := by
  by_cases h : IsC m
  · have h4 := h.2.2.2
    have : endsV m k ≤ 4 * k := by
      clear hk
      induction k with
      | zero => exact Nat.le_refl _
      | succ k ih => rw [endsV_succ]; have := nbs_len m (k : Int); omega
    omega
  · rw [endsV_bad h]; omega
theorem endsV_good {m : List (List Int)} (h : IsC m) (k : Nat) (hk : k ≤ m.length) : endsV m k = endsN (nbG m m.length) k := by
  unfold endsV endsN
  congr 1
  apply List.map_congr_left
  intro i hi
  have hi := List.mem_range.1 hi
  rw [nbs_yes ⟨h, by omega⟩, nbK_eq, intL_len]
  rfl
open Classical in
noncomputable def cycB (m : List (List Int)) : Bool := decide (IsC m ∧ (m.length : Int) - ((partsV m).length : Nat) < ((edgesN (nbF m) m.length : Nat) : Int))
open Classical in
theorem cycB_good {m : List (List Int)} (h : IsC m) : cycB m = decide ((m.length : Int) - ((partsV m).length : Nat) < ((edgesN (nbF m) m.length : Nat) : Int)) := by
  unfold cycB
  rw [decide_eq_decide]
  exact ⟨fun h => h.2, fun h' => ⟨h, h'⟩⟩
open Classical in
theorem cycB_bad {m : List (List Int)} (h : ¬ IsC m) : cycB m = false := decide_eq_false (fun hh => h hh.1)

set_option maxHeartbeats 2000000 in
set_option maxRecDepth 100000 in
theorem cp_any (B : Nat) (v : Value) (m : List (List Int)) (w : World) (h : MatB B w v m) (hB : B ≤ w.heap.size) (hf : RowsFit m) :
    Calls Try.prog 46 #[v] w fun e w' => e = .returned (.int .i64 ((endsV m m.length / 2 : Nat) : Int)) ∧ Below w.heap.size w w' := by
  obtain ⟨a, cap, rfl⟩ := h.slice
  have hl := hf.1
  have HR := Lib.hid h; clear h
  have HF := Lib.hid hf; clear hf
  have HLE := Lib.hid (fun k hk => endsV_le (m := m) k hk)
  have HNL := Lib.hid (nbs_len m)
  generalize hn : m.length = n at *
  have HN := Lib.hid hn; clear hn
  unfold maxLen at hl
  go_enter Try.func46, Try.ntmps46
  go_wp2_with fail
  go_loopw [3, 7] (fun s i wr => ∃ (k e : Nat) (wq : World), wq = wr ∧ k ≤ n ∧ i = .int .i64 k ∧ s = .int .i64 e ∧ Hid (e = endsV m k) ∧ Below w.heap.size w wq) (fun _ i _ => n - (intOf i).toNat)
  case atStart => exact ⟨0, 0, _, rfl, Nat.zero_le _, rfl, rfl, Lib.hid rfl, Below.refl _ _⟩
  case round =>
    obtain ⟨k, e, wq, rfl, hk, rfl, rfl, he, hb⟩ := hrel
    have HB := Lib.hid hb
    have hs := hb.size
    clear hb
    by_cases hlt : k < n
    · have he16 : e ≤ 16 := by rw [he.out]; exact HLE.out k hk
      have hx4 := HNL.out (k : Int)
      have HSU := Lib.hid (endsV_succ m k)
      go_wp2_with fail
      refine (nbi_any B _ m (k : Int) wq (HR.out.below HB.out hB) (Nat.le_trans hB hs) HF.out).mono ?_
      rintro e2 w2 ⟨x, rfl, hx, hb2⟩
      obtain ⟨xa, xcap, rfl⟩ := hx.1.slice
      have HB2 := Lib.hid (HB.out.trans (hb2.mono hs))
      clear hx hb2
      generalize (nbs m (k : Int)).length = xl at *
      go_wp2_with fail
      exact ⟨⟨k + 1, e + xl, _, rfl, by omega, by go_num, by go_num, Lib.hid (by rw [HSU.out, he.out]), HB2.out⟩, by simp [intOf]; omega⟩
    · obtain rfl : k = n := by omega
      have he16 : e ≤ 16 := by rw [he.out]; exact HLE.out k hk
      have HQ := Lib.hid (show (e : Int) / 2 = ((endsV m k / 2 : Nat) : Int) by rw [← he.out]; omega)
      go_wp2_with fail
      go_ret
      exact ⟨ret_int HQ.out, HB.out⟩

set_option maxHeartbeats 2000000 in
set_option maxRecDepth 100000 in
theorem cyci_any (B : Nat) (v : Value) (m : List (List Int)) (w : World) (h : MatB B w v m) (hB : B ≤ w.heap.size) (hf : RowsFit m) :
    Calls Try.prog 29 #[v] w fun e w' => e = .returned (.bool (cycB m)) ∧ Below w.heap.size w w' := by
  obtain ⟨a, cap, rfl⟩ := h.slice
  have hl := hf.1
  have hres : decide ((m.length : Int) - ((partsV m).length : Nat) < ((endsV m m.length / 2 : Nat) : Int)) = cycB m := by
    by_cases hI : IsC m
    · rw [cycB_good hI, endsV_good hI _ (Nat.le_refl _), edges_ok hI]
    · rw [cycB_bad hI, endsV_bad hI, partsV_no hI]
      exact decide_eq_false (by simp)
  have HRES := Lib.hid hres; clear hres
  have HCP := Lib.hid (cp_any B _ m w h hB hf)
  have HPA := Lib.hid (fun w1 (hb : Below w.heap.size w w1) => parti_any B _ m w1 (h.below hb hB) (Nat.le_trans hB hb.size) hf)
  clear h
  have hL := partsV_len m
  have hE : endsV m m.length / 2 ≤ 16 := by have := endsV_le (m := m) _ (Nat.le_refl _); omega
  generalize endsV m m.length / 2 = E at *
  generalize hpl : (partsV m).length = L at *
  have HPL := Lib.hid hpl; clear hpl
  generalize hn : m.length = n at *
  have HN := Lib.hid hn; clear hn
  unfold maxLen at hl
  go_enter Try.func29, Try.ntmps29
  go_wp2_with fail
  refine HCP.out.mono ?_
  rintro e w1 ⟨rfl, hb1⟩
  have HB1 := Lib.hid hb1; clear hb1
  go_wp2_with fail
  refine (HPA.out w1 HB1.out).mono ?_
  rintro e w2 ⟨x, rfl, hx, hb2⟩
  obtain ⟨xa, xcap, rfl⟩ := hx.1.slice
  have HB2 := Lib.hid (HB1.out.trans (hb2.mono HB1.out.size))
  rw [HPL.out]
  clear hx hb2
  go_wp2_with fail
  go_ret
  exact ⟨ret_boolean HRES.out, HB2.out⟩

set_option maxHeartbeats 4000000 in
set_option maxRecDepth 100000 in
theorem cycs_any (B : Nat) (v : Value) (m : List (List Int)) (w : World) (h : MatB B w v m) (hB : B ≤ w.heap.size) (hf : RowsFit m) :
    Calls Try.prog 28 #[v] w fun e w' => e = .returned (.bool (cycB m)) ∧ Below w.heap.size w w' := by
  obtain ⟨a, cap, rfl⟩ := h.slice
  have hl := hf.1
  have HPA := Lib.hid (fun w1 (hb : Below w.heap.size w w1) => parts_any B _ m w1 (h.below hb hB) (Nat.le_trans hB hb.size) hf)
  have HR := Lib.hid h; clear h
  have HF := Lib.hid hf; clear hf
  by_cases hI : IsC m
  · have hn4 := hI.2.2.2
    have hn1 := hI.2.2.1
    have HC := Lib.hid (isB_yes hI)
    have HRW := Lib.hid hI.1
    have HRES := Lib.hid (cycB_good hI).symm
    have hL := partsV_len m
    clear hI
    generalize hpl : (partsV m).length = L at *
    have HPL := Lib.hid hpl; clear hpl
    have HLE := Lib.hid (edgesN_le (nbF m))
    have HSU := Lib.hid (edgesN_succ (nbF m))
    have HCL := Lib.hid (cntK_le (nbF m))
    generalize hn : m.length = n at *
    have HN := Lib.hid hn; clear hn
    unfold maxLen at hl
    go_enter Try.func28, Try.ntmps28
    go_wp2_with fail
    go_loopw [3, 4] (fun s i wr => ∃ (k e : Nat) (wq : World), wq = wr ∧ k ≤ n ∧ i = .int .i64 k ∧ s = .int .i64 e ∧ Hid (e = edgesN (nbF m) k) ∧ Below w.heap.size w wq) (fun _ i _ => n - (intOf i).toNat)
    case atStart => exact ⟨0, 0, _, rfl, Nat.zero_le _, rfl, rfl, Lib.hid rfl, Below.refl _ _⟩
    case round =>
      obtain ⟨k, e, wq, rfl, hk, rfl, rfl, he, hb⟩ := hrel
      have HB := Lib.hid hb; clear hb
      have he16 : e ≤ 16 := by have := HLE.out k (by omega); rw [he.out]; omega
      by_cases hlt : k < n
      · have hlt' : decide (k < n) = true := decide_eq_true hlt
        go_wp2_with fail
        refine (isc_w B _ m true HC.out _ (HR.out.below HB.out hB) HF.out).mono ?_
        rintro e2 w2 ⟨rfl, hb2⟩
        have HB2 := Lib.hid (HB.out.trans (hb2.mono HB.out.size))
        clear hb2
        go_wp2_with fail
        go_loopw [3, 5] (fun s i wr => ∃ (j t : Nat), j ≤ k ∧ i = .int .i64 j ∧ s = .int .i64 t ∧ Hid (t = e + cntK (nbF m) k j) ∧ wr = w2) (fun _ i _ => k - (intOf i).toNat)
        case atStart => exact ⟨0, e, Nat.zero_le _, rfl, rfl, Lib.hid rfl, rfl⟩
        case round =>
          obtain ⟨j, t, hj, rfl, rfl, ht, rfl⟩ := hrel
          have ht20 : t ≤ 20 := by rw [ht.out]; have := HCL.out k j; omega
          by_cases hjl : j < k
          · have hjl' : decide (j < k) = true := decide_eq_true hjl
            obtain ⟨b, off, rb, roff, rcap, rfl, hc1, hx⟩ := (HR.out.below HB2.out hB).entry HRW.out hlt (show j < n by omega)
            by_cases hx0 : entry m k j = 0
            · have HST := Lib.hid (cntK_no (E := nbF m) (k := k) (j := j) (decide_eq_false (fun h => h.2 hx0)))
              rw [hx0] at hx
              clear hx0
              go_wp2_with fail
              exact ⟨⟨j + 1, t, by omega, by go_num, rfl, Lib.hid (by rw [HST.out]; exact ht.out), trivial⟩, by simp [intOf]; omega⟩
            · have HST := Lib.hid (cntK_yes (E := nbF m) (k := k) (j := j) (decide_eq_true ⟨by omega, hx0⟩))
              have hx1 : (entry m k j != 0) = true := by rw [bne_iff_ne]; exact hx0
              clear hx0
              generalize entry m k j = x at *
              go_wp2_with fail
              exact ⟨⟨j + 1, t + 1, by omega, by go_num, by go_num, Lib.hid (by rw [HST.out, ht.out]; omega), trivial⟩, by simp [intOf]; omega⟩
          · obtain rfl : j = k := by omega
            have hjl' : decide (j < j) = false := by simp
            go_wp2_with fail
            exact ⟨⟨j + 1, t, _, rfl, by omega, by go_num, rfl, Lib.hid (by rw [HSU.out, ← he.out]; exact ht.out), HB2.out⟩, by simp [intOf]; omega⟩
      · obtain rfl : n = k := by omega
        have hlt' : decide (n < n) = false := by simp
        go_wp2_with fail
        refine (isc_w B _ m true HC.out _ (HR.out.below HB.out hB) HF.out).mono ?_
        rintro e2 w2 ⟨rfl, hb2⟩
        have HB2 := Lib.hid (HB.out.trans (hb2.mono HB.out.size))
        clear hb2
        go_wp2_with fail
        refine (HPA.out w2 HB2.out).mono ?_
        rintro e3 w3 ⟨x, rfl, hx, hb3⟩
        obtain ⟨xa, xcap, rfl⟩ := hx.1.slice
        have HB3 := Lib.hid (HB2.out.trans (hb3.mono HB2.out.size))
        rw [HPL.out]
        clear hx hb3
        have HRE := Lib.hid (show decide ((n : Int) - (L : Nat) < (e : Nat)) = cycB m by rw [he.out]; exact HRES.out)
        go_wp2_with fail
        go_ret
        exact ⟨ret_boolean HRE.out, HB3.out⟩
  · have HC := Lib.hid (isB_no hI)
    have HRES := Lib.hid (cycB_bad hI)
    clear hI
    generalize hn : m.length = n at *
    have HN := Lib.hid hn; clear hn
    unfold maxLen at hl
    go_enter Try.func28, Try.ntmps28
    go_wp2_with fail
    go_loopw [3, 4] (fun s i wr => i = .int .i64 0 ∧ s = .int .i64 0 ∧ wr = w) (fun _ _ _ => 0)
    case atStart => exact ⟨rfl, rfl, rfl⟩
    case round =>
      obtain ⟨rfl, rfl, rfl⟩ := hrel
      by_cases h0 : 0 < n
      · go_wp2_with fail
        refine (isc_w B _ m false HC.out _ HR.out HF.out).mono ?_
        rintro e w2 ⟨rfl, hb2⟩
        have HB2 := Lib.hid hb2; clear hb2
        go_wp2_with fail
        refine (isc_w B _ m false HC.out _ (HR.out.below HB2.out hB) HF.out).mono ?_
        rintro e w3 ⟨rfl, hb3⟩
        have HB3 := Lib.hid hb3; clear hb3
        go_wp2_with fail
        go_ret
        exact ⟨ret_boolean HRES.out.symm, HB2.out.trans (HB3.out.mono HB2.out.size)⟩
      · have hd : decide (0 < n) = false := decide_eq_false h0
        go_wp2_with fail
        refine (isc_w B _ m false HC.out _ HR.out HF.out).mono ?_
        rintro e w2 ⟨rfl, hb2⟩
        have HB2 := Lib.hid hb2; clear hb2
        go_wp2_with fail
        go_ret
        exact ⟨ret_boolean HRES.out.symm, HB2.out⟩
end Go.Proofs.Ytomciameeodpoaa
