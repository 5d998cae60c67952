/-
  TransposeCartan of the program: what the call returns.
-/
import Derived.Test.YtcmnkhblnlmfpaaGreatDoorFW05
namespace Go.Proofs.YtcmnkhblnlmfpaaGreatDoor
open Go.RowKit

def zerosR (n : Nat) : List Int := List.replicate n 0
def zeros (n : Nat) : List (List Int) := List.replicate n (zerosR n)
theorem zeros_len (n : Nat) : (zeros n).length = n := by simp [zeros]
theorem zeros_get (n k : Nat) (h : k < (zeros n).length) : (zeros n)[k] = zerosR n := by simp [zeros]
theorem zerosR_len (n : Nat) : (zerosR n).length = n := by simp [zerosR]
theorem zeros_small (n : Nat) (h : n ≤ 1048576) : Small (zeros n) := ⟨by rw [zeros_len]; exact h, fun j hj => by rw [zeros_get, zerosR_len]; exact h⟩

theorem makeInts (n : Nat) (hn : n ≤ 1048576) (w : World) : (Instr.makeSlice 25 (.int .i64 n) (.int .i64 n)).run Tryz.prog w = .ok (.slice (some ⟨w.heap.size, 0, none⟩) n n) (w.alloc (.cells (intsV (zerosR n)).toArray 3)) := by
  obtain ⟨i0, hi, hz0, hz1, hz2⟩ := info_parts Tryz.infoInt
  have h := run_make (P := Tryz.prog) w 25 3 i0 (.int .i64 0) Tryz.underlying25 hi hz0 .i64 .i64 (n : Int) (n : Int) (by omega) (Int.le_refl _) (by rw [hz2]; omega) (by omega)
  rw [h, hz1, Nat.mul_one, Int.toNat_natCast]
  unfold zerosR
  rw [← madeI64]
theorem makeRows (n : Nat) (hn : n ≤ 1048576) (w : World) (m : List (List Int)) (hm : m.length = n) : (Instr.makeSlice 24 (.int .i64 n) (.int .i64 n)).run Tryz.prog w = .ok (.slice (some ⟨w.heap.size, 0, none⟩) n n) (w.alloc (.cells (hdrSt w.heap.size m 0).toArray 25)) := by
  obtain ⟨i0, hi, hz0, hz1, hz2⟩ := info_parts Tryz.infoRow
  have h := run_make (P := Tryz.prog) w 24 25 i0 (.slice none 0 0) Tryz.underlying24 hi hz0 .i64 .i64 (n : Int) (n : Int) (by omega) (Int.le_refl _) (by rw [hz2]; omega) (by omega)
  rw [h, hz1, Nat.mul_one, hdrSt_zero, hm, ← madeRows, Int.toNat_natCast]

set_option maxHeartbeats 1000000 in
set_option maxRecDepth 100000 in
theorem zm_any (n : Nat) (w : World) (hn : n ≤ 1048576) :
    Calls Tryz.prog 83 #[.int .i64 n] w (MakesM w (zeros n)) := by
  have hmk := makeRows n hn w (zeros n) (zeros_len n)
  go_enter Tryz.func83, Tryz.ntmps83
  go_wp2_with fail
  clear hmk
  go_loopw [9] (fun i wr => ∃ (k : Nat) (wq : World), wq = wr ∧ k ≤ n ∧ i = .int .i64 k ∧ CopySt w.heap.size (zeros n) k wq ∧ Below w.heap.size w wq) (fun i _ => n - (intOf i).toNat)
  case atStart => exact ⟨0, _, rfl, Nat.zero_le _, rfl, ⟨(MapKept.heap_alloc w _).1, by simp, fun j _ hj => by omega⟩, (Below.refl _ _).alloc (Nat.le_refl _) _⟩
  case round =>
    obtain ⟨k, wr, rfl, hk, rfl, hcp, hb⟩ := hrel
    have HC := Lib.hid hcp; clear hcp
    have HB := Lib.hid hb; clear hb
    by_cases hlt : k < n
    · have hkl : k < (zeros n).length := by rw [zeros_len]; exact hlt
      have hsz := HC.out.2.1
      have HSZ := Lib.hid hsz
      have hst := copy_step HC.out hkl
      have hhd := hdr_eq w.heap.size (zeros n) k hkl
      rw [hhd, zeros_get, zerosR_len] at hst
      have HST := Lib.hid hst; clear hst hhd
      have hbs : Below w.heap.size w ((wr.alloc (.cells (intsV (zerosR n)).toArray 3)).setCell ⟨w.heap.size, k, none⟩ (.slice (some ⟨w.heap.size + 1 + k, 0, none⟩) n n)) :=
        (HB.out.alloc (by omega) _).setCell (Nat.le_refl _) _
      have HBS := Lib.hid hbs; clear hbs
      have hmk := makeInts n hn wr
      rw [hsz] at hmk
      obtain ⟨hO, _, _⟩ := HC.out
      have hO2 : (wr.alloc (.cells (intsV (zerosR n)).toArray 3)).heap[w.heap.size]? = some (.cells (hdrSt w.heap.size (zeros n) k).toArray 25 (0, 0)) := by
        rw [(MapKept.heap_alloc wr _).2 _ (by omega)]; exact hO
      have hold : (wr.alloc (.cells (intsV (zerosR n)).toArray 3)).cell? ⟨w.heap.size, k, none⟩ = some (.slice none 0 0) := by
        rw [cell_of_row _ _ k _ _ _ hO2]
        have := hdrSt_old w.heap.size (zeros n) k hkl
        simpa using this
      have hfz : (wr.alloc (.cells (intsV (zerosR n)).toArray 3)).frozen? ⟨w.heap.size, k, none⟩ = false := frozen_of_row _ _ k _ _ hO2
      clear hO hO2 hsz
      generalize hw1 : wr.alloc (.cells (intsV (zerosR n)).toArray 3) = w1 at *
      have HW1 := Lib.hid hw1; clear hw1
      go_wp2_with fail
      exact ⟨⟨k + 1, _, rfl, by omega, by go_num, HST.out, HBS.out⟩, by simp [intOf]; omega⟩
    · obtain rfl : k = n := by omega
      go_wp2_with fail
      go_ret
      have hc : CopySt w.heap.size (zeros k) (zeros k).length wr := by rw [zeros_len]; exact HC.out
      have h1 := hc.matI (zeros_small k hn)
      have h2 := hc.2.1
      rw [zeros_len] at h1 h2
      exact ⟨_, rfl, ⟨h1.mono (Nat.le_refl _) (by omega), Nat.le_refl _⟩, HB.out⟩

/-! ### Entries set column by column -/
def stR (m : List (List Int)) (n k j r : Nat) : List Int := (List.range n).map fun c => if c < k ∨ (c = k ∧ r < j) then entry m c r else 0
def stM (m : List (List Int)) (n k j : Nat) : List (List Int) := (List.range n).map fun r => stR m n k j r
theorem stM_len (m : List (List Int)) (n k j : Nat) : (stM m n k j).length = n := by simp [stM]
theorem stR_len (m : List (List Int)) (n k j r : Nat) : (stR m n k j r).length = n := by simp [stR]
theorem stM_get (m : List (List Int)) (n k j r : Nat) (h : r < n) : (stM m n k j).getD r [] = stR m n k j r := by simp [stM, List.getD, h]
theorem stM_zero (m : List (List Int)) (n : Nat) : stM m n 0 0 = zeros n := by
  apply List.ext_getElem
  · simp [stM, zeros]
  · intro i h1 h2
    simp only [stM, zeros, zerosR, List.getElem_map, List.getElem_range, List.getElem_replicate, stR]
    apply List.ext_getElem
    · simp
    · intro c h3 h4; simp
theorem stM_next (m : List (List Int)) (n k : Nat) : stM m n k n = stM m n (k + 1) 0 := by
  apply List.ext_getElem
  · simp [stM]
  · intro i h1 h2
    have hi : i < n := by simpa [stM] using h1
    simp only [stM, List.getElem_map, List.getElem_range, stR]
    apply List.ext_getElem
    · simp
    · intro c h3 h4
      simp only [List.getElem_map, List.getElem_range]
      by_cases hc : c ≤ k
      · rw [if_pos (by omega), if_pos (by omega)]
      · rw [if_neg (by omega), if_neg (by omega)]
theorem stM_end (m : List (List Int)) (n : Nat) : stM m n n 0 = trN m n := by
  apply List.ext_getElem
  · simp [stM, trN]
  · intro i h1 h2
    simp only [stM, trN, List.getElem_map, List.getElem_range, stR, colR]
    apply List.ext_getElem
    · simp
    · intro c h3 h4
      have hc : c < n := by simpa using h3
      simp [hc]
theorem stM_step (m : List (List Int)) (n k j : Nat) (_hk : k < n) (hj : j < n) : set2 (stM m n k j) j k (entry m k j) = stM m n k (j + 1) := by
  apply List.ext_getElem
  · simp [stM, set2]
  · intro i h1 h2
    have hi : i < n := by simpa [stM] using h2
    by_cases hij : i = j
    · subst hij
      rw [set2_at, stM_get m n k i i hi]
      simp only [stM, List.getElem_map, List.getElem_range, stR]
      apply List.ext_getElem
      · simp
      · intro c h3 h4
        rw [List.getElem_set]
        simp only [List.getElem_map, List.getElem_range]
        by_cases hc : k = c
        · subst hc
          rw [if_pos rfl, if_pos (by omega)]
        · rw [if_neg hc]
          by_cases hlt : c < k
          · rw [if_pos (by omega), if_pos (by omega)]
          · rw [if_neg (by omega), if_neg (by omega)]
    · rw [set2_ne _ _ _ _ _ _ (by rw [stM_len]; exact hi) hij]
      simp only [stM, List.getElem_map, List.getElem_range, stR]
      apply List.ext_getElem
      · simp
      · intro c h3 h4
        simp only [List.getElem_map, List.getElem_range]
        by_cases hc : c < k ∨ (c = k ∧ i < j)
        · rw [if_pos hc, if_pos (by omega)]
        · rw [if_neg hc, if_neg (by omega)]

set_option maxHeartbeats 2000000 in
set_option maxRecDepth 100000 in
theorem tri_any (B : Nat) (v : Value) (m : List (List Int)) (w : World) (h : MatB B w v m) (hB : B ≤ w.heap.size) (hf : RowsFit m) :
    Calls Tryz.prog 38 #[v] w (MakesM w (trM m)) := by
  obtain ⟨a, cap, rfl⟩ := h.slice
  have hl := hf.1
  have HR := Lib.hid h; clear h
  have HF := Lib.hid hf; clear hf
  by_cases hI : IsC m
  · have hrows : Rows0 m m.length m.length := hI.1
    have hn4 := hI.2.2
    have HV := Lib.hid (trM_yes hI)
    have HC := Lib.hid (isB_yes hI)
    have HRW := Lib.hid hrows
    clear hI hrows
    generalize hn : m.length = n at *
    unfold maxLen at hl
    have HN := Lib.hid hn; clear hn
    go_enter Tryz.func38, Tryz.ntmps38
    go_wp2_with fail
    refine (icm_w B _ m true HC.out _ HR.out HF.out).mono ?_
    rintro e w1 ⟨rfl, hb1⟩
    have HB1 := Lib.hid hb1; clear hb1
    go_wp2_with fail
    refine (zm_any n w1 (by omega)).mono ?_
    rintro e w2 ⟨x, rfl, ⟨hm2, _⟩, hb2⟩
    have hz := zeros_len n
    obtain ⟨ra, rcap0, rfl⟩ := hm2.slice
    rw [hz] at hm2 ⊢
    rw [← stM_zero m n] at hm2
    have HM := Lib.hid hm2; clear hm2 hz
    have hs1 := HB1.out.size
    have HB2 := Lib.hid (HB1.out.trans (hb2.mono hs1)); clear hb2
    go_wp2_with fail
    go_loopw [16] (fun i wr => ∃ (k : Nat) (wq : World), wq = wr ∧ k ≤ n ∧ i = .int .i64 k ∧ MatI w1.heap.size w2.heap.size wq (.slice ra n rcap0) (stM m n k 0) ∧ Below w.heap.size w wq ∧ wq.heap.size = w2.heap.size) (fun i _ => n - (intOf i).toNat)
    case atStart => exact ⟨0, _, rfl, Nat.zero_le _, rfl, HM.out, HB2.out, rfl⟩
    case round =>
      obtain ⟨k, wq, rfl, hk, rfl, hM, hb, hsq⟩ := hrel
      have HMQ := Lib.hid hM; clear hM
      have HBQ := Lib.hid hb; clear hb
      have HSQ := Lib.hid hsq; clear hsq
      by_cases hlt : k < n
      · obtain ⟨b, off, rb, roff, rcap, rfl, hbB, hrB, hc1, hx⟩ := HR.out.line HRW.out hlt
        have hc1' := (HBQ.out.cell (p := ⟨b, off + k, none⟩) (by show b < _; omega)).trans hc1
        have HX := Lib.hid hx
        clear hx hc1
        go_wp2_with fail
        clear hc1'
        go_loopw [23] (fun i wr => ∃ (j : Nat) (wi : World), wi = wr ∧ j ≤ n ∧ i = .int .i64 j ∧ MatI w1.heap.size w2.heap.size wi (.slice ra n rcap0) (stM m n k j) ∧ Below w.heap.size w wi ∧ wi.heap.size = w2.heap.size) (fun i _ => n - (intOf i).toNat)
        case atStart => exact ⟨0, _, rfl, Nat.zero_le _, rfl, HMQ.out, HBQ.out, HSQ.out⟩
        case round =>
          obtain ⟨j, wi, rfl, hj, rfl, hM, hb, hsi⟩ := hrel
          have HMI := Lib.hid hM; clear hM
          have HBI := Lib.hid hb; clear hb
          have HSI := Lib.hid hsi; clear hsi
          by_cases hjn : j < n
          · have hxc := (HBI.out.cell (p := ⟨rb, roff + j, none⟩) (by show rb < _; omega)).trans (HX.out j hjn)
            obtain ⟨g, r, orcap, rfl, ho1, ho2, ho3, ho4, ho5, hput⟩ := HMI.out.put (j := j) (c := k) (by rw [stM_len]; exact hjn) (by rw [stM_get _ _ _ _ _ hjn, stR_len]; exact hlt)
            rw [stM_get _ _ _ _ _ hjn] at ho1 ho2
            rw [stR_len] at ho1
            have hp := hput (entry m k j)
            rw [stM_step m n k j hlt hjn] at hp
            have HP := Lib.hid hp
            have HBS := Lib.hid (HBI.out.setCell (p := ⟨r, k, none⟩) (Nat.le_trans hs1 ho4) (.int .i64 (entry m k j)))
            have hszz : (wi.setCell ⟨r, k, none⟩ (.int .i64 (entry m k j))).heap.size = w2.heap.size := by rw [World.size_setCell]; exact HSI.out
            have HSS := Lib.hid hszz
            clear hput hp hszz
            generalize entry m k j = x at *
            generalize (stR m n k j j).getD k 0 = y at *
            go_wp2_with fail
            exact ⟨⟨j + 1, _, rfl, by omega, by go_num, HP.out, HBS.out, HSS.out⟩, by simp [intOf]; omega⟩
          · obtain rfl : j = n := by omega
            go_wp2_with fail
            exact ⟨⟨k + 1, _, rfl, by omega, by go_num, by rw [← stM_next]; exact HMI.out, HBI.out, HSI.out⟩, by simp [intOf]; omega⟩
      · obtain rfl : k = n := by omega
        go_wp2_with fail
        go_ret
        have hM := HMQ.out
        rw [stM_end] at hM
        exact ⟨_, rfl, by rw [HV.out, HSQ.out]; exact ⟨hM.mono hs1 (Nat.le_refl _), by rw [HSQ.out]; exact Nat.le_refl _⟩, HBQ.out⟩
  · have HV := Lib.hid (trM_no hI)
    have HC := Lib.hid (isB_no hI)
    clear hI
    generalize hn : m.length = n at *
    unfold maxLen at hl
    have HN := Lib.hid hn; clear hn
    go_enter Tryz.func38, Tryz.ntmps38
    go_wp2_with fail
    refine (icm_w B _ m false HC.out _ HR.out HF.out).mono ?_
    rintro e w1 ⟨rfl, hb1⟩
    have HB1 := Lib.hid hb1; clear hb1
    go_wp2_with fail
    go_ret
    exact makesM_nil HV.out (MatI.nil _ _ _) HB1.out
theorem trM_small (m : List (List Int)) : szSum (trM m) ≤ 1048576 := by
  by_cases hI : IsC m
  · rw [trM_yes hI]
    have h4 := hI.2.2.2
    have : ∀ n k, ((List.range k).map fun i => colR m n i).map List.length = List.replicate k n := by
      intro n k
      apply List.ext_getElem
      · simp
      · intro i h1 h2; simp [colR]
    unfold szSum
    rw [trN_len]
    unfold trN
    rw [this, List.sum_replicate_nat]
    have : m.length * m.length ≤ 4 * 4 := Nat.mul_le_mul h4 h4
    omega
  · rw [trM_no hI]; decide
end Go.Proofs.YtcmnkhblnlmfpaaGreatDoor
