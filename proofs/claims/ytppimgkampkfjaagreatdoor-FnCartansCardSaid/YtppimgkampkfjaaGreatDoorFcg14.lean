/-
  IsConnected and HasCycle of the model and of the program: what each call returns.
  WitnessOf, IsFinite and IsAffine of the model: what the calls return.
  IsAffine of the model: what the call returns.
-/
import Derived.Test.YtppimgkampkfjaaGreatDoorFcg12
import Derived.Test.YtppimgkampkfjaaGreatDoorFcg13
namespace Go.Proofs.YtppimgkampkfjaaGreatDoor
open Go.RowKit

def connB (m : Nat) : Bool := decide (m = 1)
theorem connB_int (L : Nat) : ((L : Int) == 1) = connB L := by
  unfold connB
  by_cases h : L = 1
  · subst h; rfl
  · rw [decide_eq_false h, beq_eq_false_iff_ne]; omega

set_option maxHeartbeats 1000000 in
set_option maxRecDepth 100000 in
theorem cons_any (B : Nat) (v : Value) (m : List (List Int)) (w : World) (h : MatB B w v m) (hB : B ≤ w.heap.size) (hf : RowsFit m) :
    Calls Tryz.prog 37 #[v] w fun e w' => e = .returned (.bool (connB (partsV m).length)) ∧ Below w.heap.size w w' := by
  have HL := Lib.hid (connB_int (partsV m).length)
  have HP := Lib.hid (parts_any B v m w h hB hf)
  go_enter Tryz.func37, Tryz.ntmps37
  go_wp2_with fail
  refine HP.out.mono ?_
  rintro e w2 ⟨x, rfl, hx, hb⟩
  obtain ⟨xa, xcap, rfl⟩ := hx.1.slice
  have HB := Lib.hid hb
  clear hx hb
  generalize hpl : (partsV m).length = L at *
  have HPL := Lib.hid hpl; clear hpl
  go_wp2_with fail
  go_ret
  exact ⟨ret_boolean (by rw [HPL.out]; exact HL.out), HB.out⟩

set_option maxHeartbeats 1000000 in
set_option maxRecDepth 100000 in
theorem coni_any (B : Nat) (v : Value) (m : List (List Int)) (w : World) (h : MatB B w v m) (hB : B ≤ w.heap.size) (hf : RowsFit m) :
    Calls Tryz.prog 53 #[v] w fun e w' => e = .returned (.bool (connB (partsV m).length)) ∧ Below w.heap.size w w' := by
  have HL := Lib.hid (connB_int (partsV m).length)
  have HP := Lib.hid (parti_any B v m w h hB hf)
  go_enter Tryz.func53, Tryz.ntmps53
  go_wp2_with fail
  refine HP.out.mono ?_
  rintro e w2 ⟨x, rfl, hx, hb⟩
  obtain ⟨xa, xcap, rfl⟩ := hx.1.slice
  have HB := Lib.hid hb
  clear hx hb
  generalize hpl : (partsV m).length = L at *
  have HPL := Lib.hid hpl; clear hpl
  go_wp2_with fail
  go_ret
  exact ⟨ret_boolean (by rw [HPL.out]; exact HL.out), HB.out⟩

/-! ### HasCycle -/
def cntK (E : Nat → Nat → Bool) (k j : Nat) : Nat := ((List.range j).filter (E k)).length
theorem cntK_le (E : Nat → Nat → Bool) (k j : Nat) : cntK E k j ≤ j := Nat.le_trans (List.length_filter_le _ _) (by rw [List.length_range]; exact Nat.le_refl _)
theorem cntK_yes {E : Nat → Nat → Bool} {k j : Nat} (h : E k j = true) : cntK E k (j + 1) = cntK E k j + 1 := by
  unfold cntK
  rw [List.range_succ, List.filter_append]
  simp [h]
theorem cntK_no {E : Nat → Nat → Bool} {k j : Nat} (h : E k j = false) : cntK E k (j + 1) = cntK E k j := by
  unfold cntK
  rw [List.range_succ, List.filter_append]
  simp [h]
theorem edgesN_succ (E : Nat → Nat → Bool) (k : Nat) : edgesN E (k + 1) = edgesN E k + cntK E k k := by
  unfold edgesN cntK
  rw [List.range_succ, List.map_append, List.sum_append]
  simp
theorem edgesN_le (E : Nat → Nat → Bool) (k : Nat) (hk : k ≤ 5) : edgesN E k ≤ 4 * k := by
  induction k with
  | zero => exact Nat.le_refl _
  | succ k ih =>
    rw [edgesN_succ]
    have h1 := ih (by omega)
    have h2 := cntK_le E k k
    omega
noncomputable def endsV (m : List (List Int)) (k : Nat) : Nat := ((List.range k).map fun i => (nbs m ((i : Nat) : Int)).length).sum
theorem endsV_succ (m : List (List Int)) (k : Nat) : endsV m (k + 1) = endsV m k + (nbs m (k : Int)).length := by
  unfold endsV
  rw [List.range_succ, List.map_append, List.sum_append]
  simp
theorem endsV_bad {m : List (List Int)} (h : ¬ IsC m) (k : Nat) : endsV m k = 0 := by
  induction k with
  | zero => rfl
  | succ k ih => rw [endsV_succ, ih, nbs_no (fun hh => h hh.1)]; rfl
theorem endsV_le {m : List (List Int)} (k : Nat) (hk : k ≤ m.length) : endsV m k ≤ 16 := by
  by_cases h : IsC m
  · have h4 := h.2.2.2
    have : endsV m k ≤ 4 * k := by
      clear hk
      induction k with
      | zero => exact Nat.le_refl _
      | succ k ih => rw [endsV_succ]; have := nbs_len m (k : Int); omega
    omega
  · rw [endsV_bad h]; omega
theorem endsV_good {m : List (List Int)} (h : IsC m) (k : Nat) (hk : k ≤ m.length) : endsV m k = endsN (nbG m m.length) k := by
  unfold endsV endsN
  congr 1
  apply List.map_congr_left
  intro i hi
  have hi := List.mem_range.1 hi
  rw [nbs_yes ⟨h, by omega⟩, nbK_eq, intL_len]
  rfl
open Classical in
noncomputable def cycB (m : List (List Int)) : Bool := decide (IsC m ∧ (m.length : Int) - ((partsV m).length : Nat) < ((edgesN (nbF m) m.length : Nat) : Int))
open Classical in
theorem cycB_good {m : List (List Int)} (h : IsC m) : cycB m = decide ((m.length : Int) - ((partsV m).length : Nat) < ((edgesN (nbF m) m.length : Nat) : Int)) := by
  unfold cycB
  rw [decide_eq_decide]
  exact ⟨fun h => h.2, fun h' => ⟨h, h'⟩⟩
open Classical in
theorem cycB_bad {m : List (List Int)} (h : ¬ IsC m) : cycB m = false := decide_eq_false (fun hh => h hh.1)

set_option maxHeartbeats 2000000 in
set_option maxRecDepth 100000 in
theorem cp_any (B : Nat) (v : Value) (m : List (List Int)) (w : World) (h : MatB B w v m) (hB : B ≤ w.heap.size) (hf : RowsFit m) :
    Calls Tryz.prog 108 #[v] w fun e w' => e = .returned (.int .i64 ((endsV m m.length / 2 : Nat) : Int)) ∧ Below w.heap.size w w' := by
  obtain ⟨a, cap, rfl⟩ := h.slice
  have hl := hf.1
  have HR := Lib.hid h; clear h
  have HF := Lib.hid hf; clear hf
  have HLE := Lib.hid (fun k hk => endsV_le (m := m) k hk)
  have HNL := Lib.hid (nbs_len m)
  generalize hn : m.length = n at *
  have HN := Lib.hid hn; clear hn
  unfold maxLen at hl
  go_enter Tryz.func108, Tryz.ntmps108
  go_wp2_with fail
  go_loopw [3, 7] (fun s i wr => ∃ (k e : Nat) (wq : World), wq = wr ∧ k ≤ n ∧ i = .int .i64 k ∧ s = .int .i64 e ∧ Hid (e = endsV m k) ∧ Below w.heap.size w wq) (fun _ i _ => n - (intOf i).toNat)
  case atStart => exact ⟨0, 0, _, rfl, Nat.zero_le _, rfl, rfl, Lib.hid rfl, Below.refl _ _⟩
  case round =>
    obtain ⟨k, e, wq, rfl, hk, rfl, rfl, he, hb⟩ := hrel
    have HB := Lib.hid hb
    have hs := hb.size
    clear hb
    by_cases hlt : k < n
    · have he16 : e ≤ 16 := by rw [he.out]; exact HLE.out k hk
      have hx4 := HNL.out (k : Int)
      have HSU := Lib.hid (endsV_succ m k)
      go_wp2_with fail
      refine (nbi_any B _ m (k : Int) wq (HR.out.below HB.out hB) (Nat.le_trans hB hs) HF.out).mono ?_
      rintro e2 w2 ⟨x, rfl, hx, hb2⟩
      obtain ⟨xa, xcap, rfl⟩ := hx.1.slice
      have HB2 := Lib.hid (HB.out.trans (hb2.mono hs))
      clear hx hb2
      generalize (nbs m (k : Int)).length = xl at *
      go_wp2_with fail
      exact ⟨⟨k + 1, e + xl, _, rfl, by omega, by go_num, by go_num, Lib.hid (by rw [HSU.out, he.out]), HB2.out⟩, by simp [intOf]; omega⟩
    · obtain rfl : k = n := by omega
      have he16 : e ≤ 16 := by rw [he.out]; exact HLE.out k hk
      have HQ := Lib.hid (show (e : Int) / 2 = ((endsV m k / 2 : Nat) : Int) by rw [← he.out]; omega)
      go_wp2_with fail
      go_ret
      exact ⟨ret_int HQ.out, HB.out⟩

set_option maxHeartbeats 2000000 in
set_option maxRecDepth 100000 in
theorem cyci_any (B : Nat) (v : Value) (m : List (List Int)) (w : World) (h : MatB B w v m) (hB : B ≤ w.heap.size) (hf : RowsFit m) :
    Calls Tryz.prog 54 #[v] w fun e w' => e = .returned (.bool (cycB m)) ∧ Below w.heap.size w w' := by
  obtain ⟨a, cap, rfl⟩ := h.slice
  have hl := hf.1
  have hres : decide ((m.length : Int) - ((partsV m).length : Nat) < ((endsV m m.length / 2 : Nat) : Int)) = cycB m := by
    by_cases hI : IsC m
    · rw [cycB_good hI, endsV_good hI _ (Nat.le_refl _), edges_ok hI]
    · rw [cycB_bad hI, endsV_bad hI, partsV_no hI]
      exact decide_eq_false (by simp)
  have HRES := Lib.hid hres; clear hres
  have HCP := Lib.hid (cp_any B _ m w h hB hf)
  have HPA := Lib.hid (fun w1 (hb : Below w.heap.size w w1) => parti_any B _ m w1 (h.below hb hB) (Nat.le_trans hB hb.size) hf)
  clear h
  have hL := partsV_len m
  have hE : endsV m m.length / 2 ≤ 16 := by have := endsV_le (m := m) _ (Nat.le_refl _); omega
  generalize endsV m m.length / 2 = E at *
  generalize hpl : (partsV m).length = L at *
  have HPL := Lib.hid hpl; clear hpl
  generalize hn : m.length = n at *
  have HN := Lib.hid hn; clear hn
  unfold maxLen at hl
  go_enter Tryz.func54, Tryz.ntmps54
  go_wp2_with fail
  refine HCP.out.mono ?_
  rintro e w1 ⟨rfl, hb1⟩
  have HB1 := Lib.hid hb1; clear hb1
  go_wp2_with fail
  refine (HPA.out w1 HB1.out).mono ?_
  rintro e w2 ⟨x, rfl, hx, hb2⟩
  obtain ⟨xa, xcap, rfl⟩ := hx.1.slice
  have HB2 := Lib.hid (HB1.out.trans (hb2.mono HB1.out.size))
  rw [HPL.out]
  clear hx hb2
  go_wp2_with fail
  go_ret
  exact ⟨ret_boolean HRES.out, HB2.out⟩

set_option maxHeartbeats 4000000 in
set_option maxRecDepth 100000 in
theorem cycs_any (B : Nat) (v : Value) (m : List (List Int)) (w : World) (h : MatB B w v m) (hB : B ≤ w.heap.size) (hf : RowsFit m) :
    Calls Tryz.prog 55 #[v] w fun e w' => e = .returned (.bool (cycB m)) ∧ Below w.heap.size w w' := by
  obtain ⟨a, cap, rfl⟩ := h.slice
  have hl := hf.1
  have HPA := Lib.hid (fun w1 (hb : Below w.heap.size w w1) => parts_any B _ m w1 (h.below hb hB) (Nat.le_trans hB hb.size) hf)
  have HR := Lib.hid h; clear h
  have HF := Lib.hid hf; clear hf
  by_cases hI : IsC m
  · have hn4 := hI.2.2.2
    have hn1 := hI.2.2.1
    have HC := Lib.hid (isB_yes hI)
    have HRW := Lib.hid hI.1
    have HRES := Lib.hid (cycB_good hI).symm
    have hL := partsV_len m
    clear hI
    generalize hpl : (partsV m).length = L at *
    have HPL := Lib.hid hpl; clear hpl
    have HLE := Lib.hid (edgesN_le (nbF m))
    have HSU := Lib.hid (edgesN_succ (nbF m))
    have HCL := Lib.hid (cntK_le (nbF m))
    generalize hn : m.length = n at *
    have HN := Lib.hid hn; clear hn
    unfold maxLen at hl
    go_enter Tryz.func55, Tryz.ntmps55
    go_wp2_with fail
    go_loopw [3, 4] (fun s i wr => ∃ (k e : Nat) (wq : World), wq = wr ∧ k ≤ n ∧ i = .int .i64 k ∧ s = .int .i64 e ∧ Hid (e = edgesN (nbF m) k) ∧ Below w.heap.size w wq) (fun _ i _ => n - (intOf i).toNat)
    case atStart => exact ⟨0, 0, _, rfl, Nat.zero_le _, rfl, rfl, Lib.hid rfl, Below.refl _ _⟩
    case round =>
      obtain ⟨k, e, wq, rfl, hk, rfl, rfl, he, hb⟩ := hrel
      have HB := Lib.hid hb; clear hb
      have he16 : e ≤ 16 := by have := HLE.out k (by omega); rw [he.out]; omega
      by_cases hlt : k < n
      · have hlt' : decide (k < n) = true := decide_eq_true hlt
        go_wp2_with fail
        refine (isc_w B _ m true HC.out _ (HR.out.below HB.out hB) HF.out).mono ?_
        rintro e2 w2 ⟨rfl, hb2⟩
        have HB2 := Lib.hid (HB.out.trans (hb2.mono HB.out.size))
        clear hb2
        go_wp2_with fail
        go_loopw [3, 5] (fun s i wr => ∃ (j t : Nat), j ≤ k ∧ i = .int .i64 j ∧ s = .int .i64 t ∧ Hid (t = e + cntK (nbF m) k j) ∧ wr = w2) (fun _ i _ => k - (intOf i).toNat)
        case atStart => exact ⟨0, e, Nat.zero_le _, rfl, rfl, Lib.hid rfl, rfl⟩
        case round =>
          obtain ⟨j, t, hj, rfl, rfl, ht, rfl⟩ := hrel
          have ht20 : t ≤ 20 := by rw [ht.out]; have := HCL.out k j; omega
          by_cases hjl : j < k
          · have hjl' : decide (j < k) = true := decide_eq_true hjl
            obtain ⟨b, off, rb, roff, rcap, rfl, hc1, hx⟩ := (HR.out.below HB2.out hB).entry HRW.out hlt (show j < n by omega)
            by_cases hx0 : entry m k j = 0
            · have HST := Lib.hid (cntK_no (E := nbF m) (k := k) (j := j) (decide_eq_false (fun h => h.2 hx0)))
              rw [hx0] at hx
              clear hx0
              go_wp2_with fail
              exact ⟨⟨j + 1, t, by omega, by go_num, rfl, Lib.hid (by rw [HST.out]; exact ht.out), trivial⟩, by simp [intOf]; omega⟩
            · have HST := Lib.hid (cntK_yes (E := nbF m) (k := k) (j := j) (decide_eq_true ⟨by omega, hx0⟩))
              have hx1 : (entry m k j != 0) = true := by rw [bne_iff_ne]; exact hx0
              clear hx0
              generalize entry m k j = x at *
              go_wp2_with fail
              exact ⟨⟨j + 1, t + 1, by omega, by go_num, by go_num, Lib.hid (by rw [HST.out, ht.out]; omega), trivial⟩, by simp [intOf]; omega⟩
          · obtain rfl : j = k := by omega
            have hjl' : decide (j < j) = false := by simp
            go_wp2_with fail
            exact ⟨⟨j + 1, t, _, rfl, by omega, by go_num, rfl, Lib.hid (by rw [HSU.out, ← he.out]; exact ht.out), HB2.out⟩, by simp [intOf]; omega⟩
      · obtain rfl : n = k := by omega
        have hlt' : decide (n < n) = false := by simp
        go_wp2_with fail
        refine (isc_w B _ m true HC.out _ (HR.out.below HB.out hB) HF.out).mono ?_
        rintro e2 w2 ⟨rfl, hb2⟩
        have HB2 := Lib.hid (HB.out.trans (hb2.mono HB.out.size))
        clear hb2
        go_wp2_with fail
        refine (HPA.out w2 HB2.out).mono ?_
        rintro e3 w3 ⟨x, rfl, hx, hb3⟩
        obtain ⟨xa, xcap, rfl⟩ := hx.1.slice
        have HB3 := Lib.hid (HB2.out.trans (hb3.mono HB2.out.size))
        rw [HPL.out]
        clear hx hb3
        have HRE := Lib.hid (show decide ((n : Int) - (L : Nat) < (e : Nat)) = cycB m by rw [he.out]; exact HRES.out)
        go_wp2_with fail
        go_ret
        exact ⟨ret_boolean HRE.out, HB3.out⟩
  · have HC := Lib.hid (isB_no hI)
    have HRES := Lib.hid (cycB_bad hI)
    clear hI
    generalize hn : m.length = n at *
    have HN := Lib.hid hn; clear hn
    unfold maxLen at hl
    go_enter Tryz.func55, Tryz.ntmps55
    go_wp2_with fail
    go_loopw [3, 4] (fun s i wr => i = .int .i64 0 ∧ s = .int .i64 0 ∧ wr = w) (fun _ _ _ => 0)
    case atStart => exact ⟨rfl, rfl, rfl⟩
    case round =>
      obtain ⟨rfl, rfl, rfl⟩ := hrel
      by_cases h0 : 0 < n
      · go_wp2_with fail
        refine (isc_w B _ m false HC.out _ HR.out HF.out).mono ?_
        rintro e w2 ⟨rfl, hb2⟩
        have HB2 := Lib.hid hb2; clear hb2
        go_wp2_with fail
        refine (isc_w B _ m false HC.out _ (HR.out.below HB2.out hB) HF.out).mono ?_
        rintro e w3 ⟨rfl, hb3⟩
        have HB3 := Lib.hid hb3; clear hb3
        go_wp2_with fail
        go_ret
        exact ⟨ret_boolean HRES.out.symm, HB2.out.trans (HB3.out.mono HB2.out.size)⟩
      · have hd : decide (0 < n) = false := decide_eq_false h0
        go_wp2_with fail
        refine (isc_w B _ m false HC.out _ HR.out HF.out).mono ?_
        rintro e w2 ⟨rfl, hb2⟩
        have HB2 := Lib.hid hb2; clear hb2
        go_wp2_with fail
        go_ret
        exact ⟨ret_boolean HRES.out.symm, HB2.out⟩
end Go.Proofs.YtppimgkampkfjaaGreatDoor
namespace Go.Proofs.YtppimgkampkfjaaGreatDoor
open Go.RowKit

set_option maxHeartbeats 4000000 in
set_option maxRecDepth 100000 in
theorem wits_any (B : Nat) (v : Value) (m : List (List Int)) (w : World) (h : MatB B w v m) (hB : B ≤ w.heap.size) (hf : RowsFit m) :
    Calls Tryz.prog 59 #[v] w (MakesS w (witV m)) := by
  obtain ⟨a, cap, rfl⟩ := h.slice
  have hl := hf.1
  have HR := Lib.hid h; clear h
  have HF := Lib.hid hf; clear hf
  by_cases hI : IsC m
  · have hn4 := hI.2.2.2
    have hn1 := hI.2.2.1
    have HC := Lib.hid (isB_yes hI)
    have HW0 := Lib.hid (fun (ht : witT m (2 ^ m.length - 1) = none) => witV_none hI ht)
    have HW1 := Lib.hid (fun t (ht : witT m (2 ^ m.length - 1) = some t) => witV_hit hI ht)
    have HMO := Lib.hid (fun t ht => minor_ok hI (t := t) ht)
    have HMP := Lib.hid (fun t => show minP m t = detF (setK (t + 1) m.length).length (pick m (intL (setK (t + 1) m.length))) from rfl)
    have hN15 := two_pow_le m.length hn4
    have HSG := Lib.hid (fun t (ht : t < 2 ^ m.length - 1) => show ((setsL m.length (2 ^ m.length - 1)).map intL).getD t [] = intL (setK (t + 1) m.length) by
      have h1 := setsL_get m.length _ t ht
      have h2 : t < (setsL m.length (2 ^ m.length - 1)).length := by rw [setsL_len]; exact ht
      have h3 : (setsL m.length (2 ^ m.length - 1)).getD t [] = (setsL m.length (2 ^ m.length - 1))[t] := by simp [List.getD, h2]
      rw [← h1, h3]
      simp [List.getD, h2])
    have HSL := Lib.hid (show ((setsL m.length (2 ^ m.length - 1)).map intL).length = 2 ^ m.length - 1 by rw [List.length_map, setsL_len])
    have HS4 := Lib.hid (fun w1 => sets4_any m.length (2 ^ m.length) w1 hn1 hn4 rfl)
    clear hI
    generalize witV m = R at *
    generalize hT : (setsL m.length (2 ^ m.length - 1)).map intL = T at *
    clear hT
    generalize 2 ^ m.length - 1 = N at *
    generalize hn : m.length = n at *
    have HN := Lib.hid hn; clear hn
    unfold maxLen at hl
    go_enter Tryz.func59, Tryz.ntmps59
    go_wp2_with fail
    refine (isc_w B _ m true HC.out _ HR.out HF.out).mono ?_
    rintro e w2 ⟨rfl, hb2⟩
    have HB2 := Lib.hid hb2
    have hs2 := hb2.size
    clear hb2
    go_wp2_with fail
    refine (HS4.out w2).mono ?_
    rintro e w3 ⟨x, rfl, hx, hb3⟩
    have HB3 := Lib.hid (HB2.out.trans (hb3.mono HB2.out.size))
    have hs3 := hb3.size
    obtain ⟨la, lcap, rfl⟩ := hx.1.slice
    rw [HSL.out] at hx ⊢
    have HX := Lib.hid hx.1
    clear hx hb3
    go_wp2_with fail
    go_loopw [4] (fun i wr => ∃ (t : Nat) (wq : World), wq = wr ∧ t ≤ N ∧ i = .int .i64 t ∧ Hid (witT m t = none) ∧ Below w3.heap.size w3 wq) (fun i _ => N - (intOf i).toNat)
    case atStart => exact ⟨0, _, rfl, Nat.zero_le _, rfl, Lib.hid rfl, Below.refl _ _⟩
    case round =>
      obtain ⟨t, wq, rfl, ht, rfl, hse, hbq⟩ := hrel
      have HBQ := Lib.hid hbq
      have hsq := hbq.size
      clear hbq
      by_cases hlt : t < N
      · have hlt' : decide (t < N) = true := decide_eq_true hlt
        obtain ⟨g1, g2, g3, g4, g5, g6⟩ := HMO.out t hlt
        have HMP' := Lib.hid (HMP.out t)
        have HSG' := Lib.hid (HSG.out t hlt)
        have HW1' := Lib.hid (HW1.out t)
        have HXQ := Lib.hid (HX.out.same (SameIn.of_below HBQ.out (Nat.le_refl _)))
        obtain ⟨lb, hv, rfl, hcell, hrow⟩ := HXQ.out.rowI4 (j := t) (by rw [HSL.out]; exact hlt)
        rw [HSG'.out] at hrow
        obtain ⟨ra, rcap, rfl⟩ := hrow.slice
        have HROW := Lib.hid hrow; clear hrow
        have hlb : lb < w3.heap.size := by
          obtain ⟨hs9, q1, q2, _⟩ := HX.out
          exact q2 lb rfl
        have HG1 := Lib.hid g1; have HG2 := Lib.hid g2; have HG4 := Lib.hid g4; have HG5 := Lib.hid g5; have HG6 := Lib.hid g6
        clear g1 g2 g4 g5 g6
        have HCELL := Lib.hid hcell
        have HBw := Lib.hid (HB3.out.trans (HBQ.out.mono (by omega)))
        generalize setK (t + 1) n = q at *
        generalize hrl : (intL q).length = rl at *
        have hrl' : rl = q.length := by rw [← hrl]; exact intL_len q
        have HRL := Lib.hid hrl
        have HRL' := Lib.hid hrl'
        have hq4 : rl ≤ 4 := by omega
        clear hrl hrl' g3
        have hBw : B ≤ wq.heap.size := by omega
        go_wp2_with fail
        refine (subs_any B w3.heap.size _ _ m (intL q) wq (HR.out.below HBw.out hB) HROW.out.rowB hBw hsq HF.out (by rw [HRL.out]; unfold maxLen; omega)).mono ?_
        rintro e w4 ⟨y, rfl, hy, hb4⟩
        rw [HG1.out] at hy
        rw [HG2.out]
        have HY := Lib.hid hy
        have HB4 := Lib.hid (HBQ.out.trans (hb4.mono hsq))
        have hs4 := hb4.size
        clear hy hb4 hcell
        go_wp2_with fail
        refine (det_any q.length _ y (pick m (intL q)) w4 (by have := HRL'.out; omega) HY.out.matB (Nat.le_refl _) HG4.out HG5.out HG6.out).mono ?_
        rintro e w5 ⟨rfl, hb5⟩
        rw [← HMP'.out]
        have HB5 := Lib.hid (HB4.out.trans (hb5.mono (by omega)))
        have hs5 := hb5.size
        clear hb5
        by_cases hneg : minP m t ≤ 0
        · have HQ := Lib.hid (HW1'.out (witT_hit hse.out hneg N hlt))
          have hneg' : decide (minP m t ≤ 0) = true := decide_eq_true hneg
          generalize minP m t = mp at *
          have hcell5 : w5.cell? ⟨lb, t, none⟩ = some (.slice ra rl rcap) := by
            have h6 := HB5.out.cell (p := ⟨lb, t, none⟩) hlb
            have h7 := HBQ.out.cell (p := ⟨lb, t, none⟩) hlb
            rw [h6, ← h7]; exact HCELL.out
          have HROW5 := Lib.hid (HROW.out.same (fun k _ hk => (HB5.out.block k hk).trans (HBQ.out.block k hk).symm))
          have HBw5 := Lib.hid (HB3.out.trans (HB5.out.mono (by omega)))
          go_wp2_with fail
          go_ret
          exact ⟨_, rfl, by rw [HQ.out]; exact ⟨HROW5.out.mono hs2 (by omega), Nat.le_refl _⟩, HBw5.out⟩
        · have HST := Lib.hid (witT_step_no hse.out hneg)
          have hneg' : decide (minP m t ≤ 0) = false := decide_eq_false hneg
          generalize minP m t = mp at *
          go_wp2_with fail
          exact ⟨⟨t + 1, _, rfl, by omega, by go_num, HST, HB5.out⟩, by simp [intOf]; omega⟩
      · obtain rfl : N = t := by omega
        have hlt' : decide (N < N) = false := by simp
        have HQ := Lib.hid (HW0.out hse.out)
        have HBw := Lib.hid (HB3.out.trans (HBQ.out.mono (by omega)))
        go_wp2_with fail
        go_ret
        exact makesS_nil HQ.out ((row_empty wq).mono HBw.out.size (Nat.le_refl _)) (HBw.out.alloc HBw.out.size _)
  · have HC := Lib.hid (isB_no hI)
    have HV := Lib.hid (witV_no hI)
    clear hI
    generalize witV m = R at *
    generalize hn : m.length = n at *
    have HN := Lib.hid hn; clear hn
    unfold maxLen at hl
    go_enter Tryz.func59, Tryz.ntmps59
    go_wp2_with fail
    refine (isc_w B _ m false HC.out _ HR.out HF.out).mono ?_
    rintro e w2 ⟨rfl, hb2⟩
    have HB2 := Lib.hid hb2; clear hb2
    go_wp2_with fail
    go_ret
    exact makesS_nil HV.out ((row_empty w2).mono HB2.out.size (Nat.le_refl _)) (HB2.out.alloc HB2.out.size _)

/-! ### IsFinite -/
open Classical in
noncomputable def finB (m : List (List Int)) : Bool := decide (IsC m ∧ (witV m).length = 0)
open Classical in
theorem finB_yes {m : List (List Int)} (h : IsC m) : finB m = decide ((witV m).length = 0) := by
  unfold finB
  rw [decide_eq_decide]
  exact ⟨fun h => h.2, fun h' => ⟨h, h'⟩⟩
open Classical in
theorem finB_no {m : List (List Int)} (h : ¬ IsC m) : finB m = false := decide_eq_false (fun hh => h hh.1)
theorem len_int0 (L : Nat) : ((L : Int) == 0) = decide (L = 0) := by
  by_cases h : L = 0
  · subst h; rfl
  · rw [decide_eq_false h, beq_eq_false_iff_ne]; omega

set_option maxHeartbeats 1000000 in
set_option maxRecDepth 100000 in
theorem fins_any (B : Nat) (v : Value) (m : List (List Int)) (w : World) (h : MatB B w v m) (hB : B ≤ w.heap.size) (hf : RowsFit m) :
    Calls Tryz.prog 63 #[v] w fun e w' => e = .returned (.bool (finB m)) ∧ Below w.heap.size w w' := by
  have HWI := Lib.hid (fun w1 (hb : Below w.heap.size w w1) => wits_any B v m w1 (h.below hb hB) (Nat.le_trans hB hb.size) hf)
  have HR := Lib.hid h; clear h
  by_cases hI : IsC m
  · have HC := Lib.hid (isB_yes hI)
    have HV := Lib.hid (finB_yes hI)
    have HL := Lib.hid (len_int0 (witV m).length)
    clear hI
    generalize finB m = c at *
    go_enter Tryz.func63, Tryz.ntmps63
    go_wp2_with fail
    refine (isc_w B _ m true HC.out _ HR.out hf).mono ?_
    rintro e w1 ⟨rfl, hb1⟩
    have HB1 := Lib.hid hb1; clear hb1
    go_wp2_with fail
    refine (HWI.out w1 HB1.out).mono ?_
    rintro e w2 ⟨x, rfl, hx, hb2⟩
    obtain ⟨xa, xcap, rfl⟩ := hx.1.slice
    have HB2 := Lib.hid (HB1.out.trans (hb2.mono HB1.out.size))
    clear hx hb2
    generalize hpl : (witV m).length = L at *
    have HPL := Lib.hid hpl; clear hpl
    go_wp2_with fail
    go_ret
    exact ⟨ret_boolean (by rw [HV.out]; exact HL.out), HB2.out⟩
  · have HC := Lib.hid (isB_no hI)
    have HV := Lib.hid (finB_no hI)
    clear hI
    generalize finB m = c at *
    go_enter Tryz.func63, Tryz.ntmps63
    go_wp2_with fail
    refine (isc_w B _ m false HC.out _ HR.out hf).mono ?_
    rintro e w1 ⟨rfl, hb1⟩
    have HB1 := Lib.hid hb1; clear hb1
    go_wp2_with fail
    go_ret
    exact ⟨ret_boolean HV.out.symm, HB1.out⟩
end Go.Proofs.YtppimgkampkfjaaGreatDoor
namespace Go.Proofs.YtppimgkampkfjaaGreatDoor
open Go.RowKit

def affC (c : Bool) (l : List Int) : Prop := c = true ∧ l.getD (l.length - 1) 0 = 0 ∧ ∀ i, i + 1 < l.length → 0 < l.getD i 0
open Classical in
noncomputable def affB (c : Bool) (l : List Int) : Bool := decide (affC c l)
open Classical in
theorem affB_yes {c : Bool} {l : List Int} (h : affC c l) : affB c l = true := decide_eq_true h
open Classical in
theorem affB_no {c : Bool} {l : List Int} (h : ¬ affC c l) : affB c l = false := decide_eq_false h
theorem conn_isC {m : List (List Int)} (h : connB (partsV m).length = true) : IsC m := Classical.byContradiction fun hn => by
  rw [partsV_no hn] at h
  exact absurd h (by decide)
theorem minV_pos {m : List (List Int)} (h : IsC m) : 1 ≤ (minV m).length := by
  rw [minV_yes h, minK_len]
  rcases (show m.length = 1 ∨ m.length = 2 ∨ m.length = 3 ∨ m.length = 4 by have := h.2.2; omega) with e | e | e | e <;> rw [e] <;> decide

set_option maxHeartbeats 2000000 in
set_option maxRecDepth 100000 in
theorem affs_any (B : Nat) (v : Value) (m : List (List Int)) (w : World) (h : MatB B w v m) (hB : B ≤ w.heap.size) (hf : RowsFit m) :
    Calls Tryz.prog 64 #[v] w fun e w' => e = .returned (.bool (affB (connB (partsV m).length) (minV m))) ∧ Below w.heap.size w w' := by
  have HPM := Lib.hid (pmin_any B v m w h hB hf)
  have HCO := Lib.hid (fun w1 (hb : Below w.heap.size w w1) => cons_any B v m w1 (h.below hb hB) (Nat.le_trans hB hb.size) hf)
  have HPOS := Lib.hid (fun (hc : connB (partsV m).length = true) => minV_pos (conn_isC hc))
  have hl15 := minV_len m
  clear h
  generalize minV m = l at *
  generalize connB (partsV m).length = c at *
  have HNO := Lib.hid (fun (h : ¬ affC c l) => affB_no h)
  have HYES := Lib.hid (fun (h : affC c l) => affB_yes h)
  generalize hr : affB c l = r at *
  have HRR := Lib.hid hr; clear hr
  generalize hln : l.length = L at *
  have HLN := Lib.hid hln; clear hln
  go_enter Tryz.func64, Tryz.ntmps64
  go_wp2_with fail
  refine HPM.out.mono ?_
  rintro e w1 ⟨x, rfl, hx, hb1⟩
  have HB1 := Lib.hid hb1
  have hs1 := hb1.size
  obtain ⟨xa, xcap, rfl⟩ := hx.1.slice
  rw [HLN.out] at hx ⊢
  have HX := Lib.hid hx.1
  clear hx hb1
  go_wp2_with fail
  refine (HCO.out w1 HB1.out).mono ?_
  rintro e w2 ⟨rfl, hb2⟩
  have HB2 := Lib.hid (HB1.out.trans (hb2.mono hs1))
  have HX2 := Lib.hid (HX.out.step hb2)
  clear hb2
  by_cases hc : c = true
  · have hp := HPOS.out hc
    obtain ⟨K, hK⟩ : ∃ K, L = K + 1 := ⟨L - 1, by omega⟩
    have hKL : K < L := by omega
    have hsub : (L : Int) - 1 = (K : Int) := by omega
    have hKI : (K : Int) < (L : Int) := by omega
    have HK := Lib.hid hK; clear hK
    obtain ⟨lb, loff, rfl, hlb, hlc⟩ := RowB.getD HX2.out.rowB (j := K) hKL
    have HCT := Lib.hid hc
    rw [hc]
    clear hc
    by_cases hz : l.getD K 0 = 0
    · have hz' : (l.getD K 0 != 0) = false := by rw [bne_eq_false_iff_eq]; exact hz
      rw [hz] at hlc
      have HZ := Lib.hid hz
      clear hz hz'
      go_wp2_with fail
      clear hlc hsub hKI
      go_loopw [4] (fun i wr => ∃ t : Nat, t + 1 ≤ L ∧ i = .int .i64 t ∧ wr = w2 ∧ ∀ j, j < t → 0 < l.getD j 0) (fun i _ => L - (intOf i).toNat)
      case atStart => exact ⟨0, by omega, rfl, rfl, fun j hj => by omega⟩
      case round =>
        obtain ⟨t, ht, rfl, rfl, hpos⟩ := hrel
        have HP := Lib.hid hpos; clear hpos
        by_cases hlt : t + 1 < L
        · have hlt' : decide (t + 1 < L) = true := decide_eq_true hlt
          have htL : t < L := by omega
          have hlc := RowB.prev HX2.out.rowB (j := t) htL
          by_cases hp0 : l.getD t 0 ≤ 0
          · have HQ := Lib.hid (HNO.out (fun h => by have := h.2.2 t (by rw [HLN.out]; exact hlt); omega))
            have hneg : decide (l.getD t 0 ≤ 0) = true := decide_eq_true hp0
            generalize l.getD t 0 = z at *
            go_wp2_with fail
            go_ret
            exact ⟨ret_boolean HQ.out.symm, HB2.out⟩
          · have hpos' : ∀ j, j < t + 1 → 0 < l.getD j 0 := fun j hj => by
              rcases Nat.lt_or_ge j t with h' | h'
              · exact HP.out j h'
              · obtain rfl : j = t := by omega
                omega
            have HP' := Lib.hid hpos'; clear hpos'
            have hneg : decide (l.getD t 0 ≤ 0) = false := decide_eq_false hp0
            generalize l.getD t 0 = z at *
            go_wp2_with fail
            exact ⟨⟨t + 1, by omega, by go_num, trivial, HP'.out⟩, by simp [intOf]; omega⟩
        · have hlt' : decide (t + 1 < L) = false := decide_eq_false hlt
          have HQ := Lib.hid (HYES.out ⟨HCT.out, by rw [HLN.out, show L - 1 = K by have := HK.out; omega]; exact HZ.out, fun i hi => HP.out i (by rw [HLN.out] at hi; omega)⟩)
          go_wp2_with fail
          go_ret
          exact ⟨ret_boolean HQ.out.symm, HB2.out⟩
    · have hz' : (l.getD K 0 != 0) = true := by rw [bne_iff_ne]; exact hz
      have HQ := Lib.hid (HNO.out (fun h => hz (by have h1 := h.2.1; rw [HLN.out, show L - 1 = K by have := HK.out; omega] at h1; exact h1)))
      clear hz
      generalize l.getD K 0 = z at *
      go_wp2_with fail
      go_ret
      exact ⟨ret_boolean HQ.out.symm, HB2.out⟩
  · have hc' : c = false := by simpa using hc
    have HQ := Lib.hid (HNO.out (fun h => hc h.1))
    rw [hc']
    clear hc hc'
    go_wp2_with fail
    go_ret
    exact ⟨ret_boolean HQ.out.symm, HB2.out⟩
end Go.Proofs.YtppimgkampkfjaaGreatDoor
