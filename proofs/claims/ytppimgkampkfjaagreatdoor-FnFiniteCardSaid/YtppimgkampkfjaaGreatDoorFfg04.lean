/-
  TransposeCartan of the program: what the call returns.
  BondOf of the model and of the program: what each call returns.
-/
import Derived.Test.YtppimgkampkfjaaGreatDoorFfg03
import Derived.Test.YtppimgkampkfjaaGreatDoorFfg02
namespace Go.Proofs.YtppimgkampkfjaaGreatDoor
open Go.RowKit

def zerosR (n : Nat) : List Int := List.replicate n 0
def zeros (n : Nat) : List (List Int) := List.replicate n (zerosR n)
theorem zeros_len (n : Nat) : (zeros n).length = n := by simp [zeros]
theorem zeros_get (n k : Nat) (h : k < (zeros n).length) : (zeros n)[k] = zerosR n := by simp [zeros]
theorem zerosR_len (n : Nat) : (zerosR n).length = n := by simp [zerosR]
theorem zeros_small (n : Nat) (h : n ≤ 1048576) : Small (zeros n) := ⟨by rw [zeros_len]; exact h, fun j hj => by rw [zeros_get, zerosR_len]; exact h⟩

theorem makeInts (n : Nat) (hn : n ≤ 1048576) (w : World) : (Instr.makeSlice 39 (.int .i64 n) (.int .i64 n)).run Tryz.prog w = .ok (.slice (some ⟨w.heap.size, 0, none⟩) n n) (w.alloc (.cells (intsV (zerosR n)).toArray 3)) := by
  obtain ⟨i0, hi, hz0, hz1, hz2⟩ := info_parts Tryz.infoInt
  have h := run_make (P := Tryz.prog) w 39 3 i0 (.int .i64 0) Tryz.underlying39 hi hz0 .i64 .i64 (n : Int) (n : Int) (by omega) (Int.le_refl _) (by rw [hz2]; omega) (by omega)
  rw [h, hz1, Nat.mul_one, Int.toNat_natCast]
  unfold zerosR
  rw [← madeI64]
theorem makeRows (n : Nat) (hn : n ≤ 1048576) (w : World) (m : List (List Int)) (hm : m.length = n) : (Instr.makeSlice 24 (.int .i64 n) (.int .i64 n)).run Tryz.prog w = .ok (.slice (some ⟨w.heap.size, 0, none⟩) n n) (w.alloc (.cells (hdrSt w.heap.size m 0).toArray 39)) := by
  obtain ⟨i0, hi, hz0, hz1, hz2⟩ := info_parts Tryz.infoRow
  have h := run_make (P := Tryz.prog) w 24 39 i0 (.slice none 0 0) Tryz.underlying24 hi hz0 .i64 .i64 (n : Int) (n : Int) (by omega) (Int.le_refl _) (by rw [hz2]; omega) (by omega)
  rw [h, hz1, Nat.mul_one, hdrSt_zero, hm, ← madeRows, Int.toNat_natCast]

set_option maxHeartbeats 1000000 in
set_option maxRecDepth 100000 in
theorem zm_any (n : Nat) (w : World) (hn : n ≤ 1048576) :
    Calls Tryz.prog 82 #[.int .i64 n] w (MakesM w (zeros n)) := by
  have hmk := makeRows n hn w (zeros n) (zeros_len n)
  go_enter Tryz.func82, Tryz.ntmps82
  go_wp2_with fail
  clear hmk
  go_loopw [9] (fun i wr => ∃ (k : Nat) (wq : World), wq = wr ∧ k ≤ n ∧ i = .int .i64 k ∧ CopySt w.heap.size (zeros n) k wq ∧ Below w.heap.size w wq) (fun i _ => n - (intOf i).toNat)
  case atStart => exact ⟨0, _, rfl, Nat.zero_le _, rfl, ⟨(MapKept.heap_alloc w _).1, by simp, fun j _ hj => by omega⟩, (Below.refl _ _).alloc (Nat.le_refl _) _⟩
  case round =>
    obtain ⟨k, wr, rfl, hk, rfl, hcp, hb⟩ := hrel
    have HC := Lib.hid hcp; clear hcp
    have HB := Lib.hid hb; clear hb
    by_cases hlt : k < n
    · have hkl : k < (zeros n).length := by rw [zeros_len]; exact hlt
      have hsz := HC.out.2.1
      have HSZ := Lib.hid hsz
      have hst := copy_step HC.out hkl
      have hhd := hdr_eq w.heap.size (zeros n) k hkl
      rw [hhd, zeros_get, zerosR_len] at hst
      have HST := Lib.hid hst; clear hst hhd
      have hbs : Below w.heap.size w ((wr.alloc (.cells (intsV (zerosR n)).toArray 3)).setCell ⟨w.heap.size, k, none⟩ (.slice (some ⟨w.heap.size + 1 + k, 0, none⟩) n n)) :=
        (HB.out.alloc (by omega) _).setCell (Nat.le_refl _) _
      have HBS := Lib.hid hbs; clear hbs
      have hmk := makeInts n hn wr
      rw [hsz] at hmk
      obtain ⟨hO, _, _⟩ := HC.out
      have hO2 : (wr.alloc (.cells (intsV (zerosR n)).toArray 3)).heap[w.heap.size]? = some (.cells (hdrSt w.heap.size (zeros n) k).toArray 39 (0, 0)) := by
        rw [(MapKept.heap_alloc wr _).2 _ (by omega)]; exact hO
      have hold : (wr.alloc (.cells (intsV (zerosR n)).toArray 3)).cell? ⟨w.heap.size, k, none⟩ = some (.slice none 0 0) := by
        rw [cell_of_row _ _ k _ _ _ hO2]
        have := hdrSt_old w.heap.size (zeros n) k hkl
        simpa using this
      have hfz : (wr.alloc (.cells (intsV (zerosR n)).toArray 3)).frozen? ⟨w.heap.size, k, none⟩ = false := frozen_of_row _ _ k _ _ hO2
      clear hO hO2 hsz
      generalize hw1 : wr.alloc (.cells (intsV (zerosR n)).toArray 3) = w1 at *
      have HW1 := Lib.hid hw1; clear hw1
      go_wp2_with fail
      exact ⟨⟨k + 1, _, rfl, by omega, by go_num, HST.out, HBS.out⟩, by simp [intOf]; omega⟩
    · obtain rfl : k = n := by omega
      go_wp2_with fail
      go_ret
      have hc : CopySt w.heap.size (zeros k) (zeros k).length wr := by rw [zeros_len]; exact HC.out
      have h1 := hc.matI (zeros_small k hn)
      have h2 := hc.2.1
      rw [zeros_len] at h1 h2
      exact ⟨_, rfl, ⟨h1.mono (Nat.le_refl _) (by omega), Nat.le_refl _⟩, HB.out⟩

/-! ### Entries set column by column -/
def stR (m : List (List Int)) (n k j r : Nat) : List Int := (List.range n).map fun c => if c < k ∨ (c = k ∧ r < j) then entry m c r else 0
def stM (m : List (List Int)) (n k j : Nat) : List (List Int) := (List.range n).map fun r => stR m n k j r
theorem stM_len (m : List (List Int)) (n k j : Nat) : (stM m n k j).length = n := by simp [stM]
theorem stR_len (m : List (List Int)) (n k j r : Nat) : (stR m n k j r).length = n := by simp [stR]
theorem stM_get (m : List (List Int)) (n k j r : Nat) (h : r < n) : (stM m n k j).getD r [] = stR m n k j r := by simp [stM, List.getD, h]
theorem stM_zero (m : List (List Int)) (n : Nat) : stM m n 0 0 = zeros n := by
  apply List.ext_getElem
  · simp [stM, zeros]
  · intro i h1 h2
    simp only [stM, zeros, zerosR, List.getElem_map, List.getElem_range, List.getElem_replicate, stR]
    apply List.ext_getElem
    · simp
    · intro c h3 h4; simp
theorem stM_next (m : List (List Int)) (n k : Nat) : stM m n k n = stM m n (k + 1) 0 := by
  apply List.ext_getElem
  · simp [stM]
  · intro i h1 h2
    have hi : i < n := by simpa [stM] using h1
    simp only [stM, List.getElem_map, List.getElem_range, stR]
    apply List.ext_getElem
    · simp
    · intro c h3 h4
      simp only [List.getElem_map, List.getElem_range]
      by_cases hc : c ≤ k
      · rw [if_pos (by omega), if_pos (by omega)]
      · rw [if_neg (by omega), if_neg (by omega)]
theorem stM_end (m : List (List Int)) (n : Nat) : stM m n n 0 = trN m n := by
  apply List.ext_getElem
  · simp [stM, trN]
  · intro i h1 h2
    simp only [stM, trN, List.getElem_map, List.getElem_range, stR, colR]
    apply List.ext_getElem
    · simp
    · intro c h3 h4
      have hc : c < n := by simpa using h3
      simp [hc]
theorem stM_step (m : List (List Int)) (n k j : Nat) (hk : k < n) (hj : j < n) : set2 (stM m n k j) j k (entry m k j) = stM m n k (j + 1) := by
  apply List.ext_getElem
  · simp [stM, set2]
  · intro i h1 h2
    have hi : i < n := by simpa [stM] using h2
    by_cases hij : i = j
    · subst hij
      rw [set2_at, stM_get m n k i i hi]
      simp only [stM, List.getElem_map, List.getElem_range, stR]
      apply List.ext_getElem
      · simp
      · intro c h3 h4
        rw [List.getElem_set]
        simp only [List.getElem_map, List.getElem_range]
        by_cases hc : k = c
        · subst hc
          rw [if_pos rfl, if_pos (by omega)]
        · rw [if_neg hc]
          by_cases hlt : c < k
          · rw [if_pos (by omega), if_pos (by omega)]
          · rw [if_neg (by omega), if_neg (by omega)]
    · rw [set2_ne _ _ _ _ _ _ (by rw [stM_len]; exact hi) hij]
      simp only [stM, List.getElem_map, List.getElem_range, stR]
      apply List.ext_getElem
      · simp
      · intro c h3 h4
        simp only [List.getElem_map, List.getElem_range]
        by_cases hc : c < k ∨ (c = k ∧ i < j)
        · rw [if_pos hc, if_pos (by omega)]
        · rw [if_neg hc, if_neg (by omega)]

set_option maxHeartbeats 2000000 in
set_option maxRecDepth 100000 in
theorem tri_any (B : Nat) (v : Value) (m : List (List Int)) (w : World) (h : MatB B w v m) (hB : B ≤ w.heap.size) (hf : RowsFit m) :
    Calls Tryz.prog 14 #[v] w (MakesM w (trM m)) := by
  obtain ⟨a, cap, rfl⟩ := h.slice
  have hl := hf.1
  have HR := Lib.hid h; clear h
  have HF := Lib.hid hf; clear hf
  by_cases hI : IsC m
  · have hrows : Rows0 m m.length m.length := hI.1
    have hn4 := hI.2.2
    have HV := Lib.hid (trM_yes hI)
    have HC := Lib.hid (isB_yes hI)
    have HRW := Lib.hid hrows
    clear hI hrows
    generalize hn : m.length = n at *
    unfold maxLen at hl
    have HN := Lib.hid hn; clear hn
    go_enter Tryz.func14, Tryz.ntmps14
    go_wp2_with fail
    refine (icm_w B _ m true HC.out _ HR.out HF.out).mono ?_
    rintro e w1 ⟨rfl, hb1⟩
    have HB1 := Lib.hid hb1; clear hb1
    go_wp2_with fail
    refine (zm_any n w1 (by omega)).mono ?_
    rintro e w2 ⟨x, rfl, ⟨hm2, _⟩, hb2⟩
    have hz := zeros_len n
    obtain ⟨ra, rcap0, rfl⟩ := hm2.slice
    rw [hz] at hm2 ⊢
    rw [← stM_zero m n] at hm2
    have HM := Lib.hid hm2; clear hm2 hz
    have hs1 := HB1.out.size
    have HB2 := Lib.hid (HB1.out.trans (hb2.mono hs1)); clear hb2
    go_wp2_with fail
    go_loopw [16] (fun i wr => ∃ (k : Nat) (wq : World), wq = wr ∧ k ≤ n ∧ i = .int .i64 k ∧ MatI w1.heap.size w2.heap.size wq (.slice ra n rcap0) (stM m n k 0) ∧ Below w.heap.size w wq ∧ wq.heap.size = w2.heap.size) (fun i _ => n - (intOf i).toNat)
    case atStart => exact ⟨0, _, rfl, Nat.zero_le _, rfl, HM.out, HB2.out, rfl⟩
    case round =>
      obtain ⟨k, wq, rfl, hk, rfl, hM, hb, hsq⟩ := hrel
      have HMQ := Lib.hid hM; clear hM
      have HBQ := Lib.hid hb; clear hb
      have HSQ := Lib.hid hsq; clear hsq
      by_cases hlt : k < n
      · obtain ⟨b, off, rb, roff, rcap, rfl, hbB, hrB, hc1, hx⟩ := HR.out.line HRW.out hlt
        have hc1' := (HBQ.out.cell (p := ⟨b, off + k, none⟩) (by show b < _; omega)).trans hc1
        have HX := Lib.hid hx
        clear hx hc1
        go_wp2_with fail
        clear hc1'
        go_loopw [23] (fun i wr => ∃ (j : Nat) (wi : World), wi = wr ∧ j ≤ n ∧ i = .int .i64 j ∧ MatI w1.heap.size w2.heap.size wi (.slice ra n rcap0) (stM m n k j) ∧ Below w.heap.size w wi ∧ wi.heap.size = w2.heap.size) (fun i _ => n - (intOf i).toNat)
        case atStart => exact ⟨0, _, rfl, Nat.zero_le _, rfl, HMQ.out, HBQ.out, HSQ.out⟩
        case round =>
          obtain ⟨j, wi, rfl, hj, rfl, hM, hb, hsi⟩ := hrel
          have HMI := Lib.hid hM; clear hM
          have HBI := Lib.hid hb; clear hb
          have HSI := Lib.hid hsi; clear hsi
          by_cases hjn : j < n
          · have hxc := (HBI.out.cell (p := ⟨rb, roff + j, none⟩) (by show rb < _; omega)).trans (HX.out j hjn)
            obtain ⟨g, r, orcap, rfl, ho1, ho2, ho3, ho4, ho5, hput⟩ := HMI.out.put (j := j) (c := k) (by rw [stM_len]; exact hjn) (by rw [stM_get _ _ _ _ _ hjn, stR_len]; exact hlt)
            rw [stM_get _ _ _ _ _ hjn] at ho1 ho2
            rw [stR_len] at ho1
            have hp := hput (entry m k j)
            rw [stM_step m n k j hlt hjn] at hp
            have HP := Lib.hid hp
            have HBS := Lib.hid (HBI.out.setCell (p := ⟨r, k, none⟩) (Nat.le_trans hs1 ho4) (.int .i64 (entry m k j)))
            have hszz : (wi.setCell ⟨r, k, none⟩ (.int .i64 (entry m k j))).heap.size = w2.heap.size := by rw [World.size_setCell]; exact HSI.out
            have HSS := Lib.hid hszz
            clear hput hp hszz
            generalize entry m k j = x at *
            generalize (stR m n k j j).getD k 0 = y at *
            go_wp2_with fail
            exact ⟨⟨j + 1, _, rfl, by omega, by go_num, HP.out, HBS.out, HSS.out⟩, by simp [intOf]; omega⟩
          · obtain rfl : j = n := by omega
            go_wp2_with fail
            exact ⟨⟨k + 1, _, rfl, by omega, by go_num, by rw [← stM_next]; exact HMI.out, HBI.out, HSI.out⟩, by simp [intOf]; omega⟩
      · obtain rfl : k = n := by omega
        go_wp2_with fail
        go_ret
        have hM := HMQ.out
        rw [stM_end] at hM
        exact ⟨_, rfl, by rw [HV.out, HSQ.out]; exact ⟨hM.mono hs1 (Nat.le_refl _), by rw [HSQ.out]; exact Nat.le_refl _⟩, HBQ.out⟩
  · have HV := Lib.hid (trM_no hI)
    have HC := Lib.hid (isB_no hI)
    clear hI
    generalize hn : m.length = n at *
    unfold maxLen at hl
    have HN := Lib.hid hn; clear hn
    go_enter Tryz.func14, Tryz.ntmps14
    go_wp2_with fail
    refine (icm_w B _ m false HC.out _ HR.out HF.out).mono ?_
    rintro e w1 ⟨rfl, hb1⟩
    have HB1 := Lib.hid hb1; clear hb1
    go_wp2_with fail
    go_ret
    exact makesM_nil HV.out (MatI.nil _ _ _) HB1.out
theorem trM_small (m : List (List Int)) : szSum (trM m) ≤ 1048576 := by
  by_cases hI : IsC m
  · rw [trM_yes hI]
    have h4 := hI.2.2.2
    have : ∀ n k, ((List.range k).map fun i => colR m n i).map List.length = List.replicate k n := by
      intro n k
      apply List.ext_getElem
      · simp
      · intro i h1 h2; simp [colR]
    unfold szSum
    rw [trN_len]
    unfold trN
    rw [this, List.sum_replicate_nat]
    have : m.length * m.length ≤ 4 * 4 := Nat.mul_le_mul h4 h4
    omega
  · rw [trM_no hI]; decide
end Go.Proofs.YtppimgkampkfjaaGreatDoor
namespace Go.Proofs.YtppimgkampkfjaaGreatDoor
open Go.RowKit

theorem wrap_prod {x y : Int} (hx : -3 ≤ x ∧ x ≤ 0) (hy : -3 ≤ y ∧ y ≤ 0) : wrap64 (x * y) = x * y := by
  have h : 0 ≤ x * y ∧ x * y ≤ 9 := by
    have hx' : x = 0 ∨ x = -1 ∨ x = -2 ∨ x = -3 := four hx
    rcases hx' with rfl | rfl | rfl | rfl <;> omega
  exact IntWalk.wrap64_in _ ⟨by omega, by omega⟩
def ptB (i : Int) (n : Nat) : Bool := decide (0 ≤ i ∧ i ≤ (n : Int) - 1)
theorem ptB_yes {i : Int} {n : Nat} (h : 0 ≤ i ∧ i ≤ (n : Int) - 1) : ptB i n = true := decide_eq_true h
theorem ptB_no {i : Int} {n : Nat} (h : ¬ (0 ≤ i ∧ i ≤ (n : Int) - 1)) : ptB i n = false := decide_eq_false h
set_option maxHeartbeats 400000 in
theorem pt_any (a : Option Addr) (n cap : Nat) (i : Int) (w : World) (hl : n ≤ 2 ^ 63 - 1) :
    Calls Tryz.prog 88 #[.slice a n cap, .int .i64 i] w fun e w' => e = .returned (.bool (ptB i n)) ∧ w = w' := by
  by_cases h : 0 ≤ i
  · have h1 : decide (0 ≤ i) = true := decide_eq_true h
    by_cases h2 : i ≤ (n : Int) - 1
    · have HV := Lib.hid (ptB_yes ⟨h, h2⟩)
      have h3 : decide (i < (n : Int)) = true := decide_eq_true (by omega)
      go_enter Tryz.func88, Tryz.ntmps88
      go_wp2_with fail
      go_ret
      exact ⟨ret_boolean HV.out.symm, rfl⟩
    · have HV := Lib.hid (ptB_no (i := i) (n := n) (fun x => h2 x.2))
      have h3 : decide (i < (n : Int)) = false := decide_eq_false (by omega)
      go_enter Tryz.func88, Tryz.ntmps88
      go_wp2_with fail
      go_ret
      exact ⟨ret_boolean HV.out.symm, rfl⟩
  · have HV := Lib.hid (ptB_no (i := i) (n := n) (fun x => h x.1))
    have h1 : decide (0 ≤ i) = false := decide_eq_false h
    go_enter Tryz.func88, Tryz.ntmps88
    go_wp2_with fail
    go_ret
    exact ⟨ret_boolean HV.out.symm, rfl⟩
theorem pt_c (a : Option Addr) (n cap : Nat) (i : Int) (c : Bool) (hc : ptB i n = c) (w : World) (hl : n ≤ 2 ^ 63 - 1) :
    Calls Tryz.prog 88 #[.slice a n cap, .int .i64 i] w fun e w' => e = .returned (.bool c) ∧ w = w' :=
  (pt_any a n cap i w hl).mono fun e w' ⟨he, hw⟩ => ⟨by rw [he]; exact ret_boolean hc, hw⟩
theorem icm_0 (B : Nat) (v : Value) (m : List (List Int)) (c : Bool) (hc : isB m = c) (w : World) (h : MatB B w v m) (hf : RowsFit m) :
    Calls Tryz.prog 13 #[v] w fun e w' => e = .returned (.bool c) ∧ ∃ m, w' = w.drewN m :=
  (icm_any B v m w h hf).mono fun e w' ⟨he, hw⟩ => ⟨by rw [he]; exact ret_boolean hc, hw⟩

set_option maxHeartbeats 4000000 in
set_option maxRecDepth 100000 in
theorem bonds_walk {b off rb roff rcap rb' roff' rcap' n cap p r : Nat} {w : World} {x y k z : Int}
    (hq : Calls Tryz.prog 11 #[.slice (some ⟨b, off, none⟩) n cap] w fun e w' => e = .returned (.bool true) ∧ ∃ m, w' = w.drewN m)
    (hi : inB (p : Int) 0 ((n : Int) - 1) = true) (hj : inB (r : Int) 0 ((n : Int) - 1) = true) (hl : n ≤ 2 ^ 63 - 1) (hp : p < n) (hr : r < n) (hne : ((p : Int) == (r : Int)) = false)
    (hc1 : w.cell? ⟨b, off + p, none⟩ = some (.slice (some ⟨rb, roff, none⟩) n rcap)) (hx1 : w.cell? ⟨rb, roff + r, none⟩ = some (.int .i64 x))
    (hc2 : w.cell? ⟨b, off + r, none⟩ = some (.slice (some ⟨rb', roff', none⟩) n rcap')) (hy1 : w.cell? ⟨rb', roff' + p, none⟩ = some (.int .i64 y))
    (hz : wrap64 (x * y) = z) (hk : k = bondP z) :
    Calls Tryz.prog 20 #[.slice (some ⟨b, off, none⟩) n cap, .int .i64 p, .int .i64 r] w fun e w' => e = .returned (.int .i64 k) ∧ ∃ q, w' = w.drewN q := by
  have HQ := Lib.hid hq; clear hq
  have HI := Lib.hid hi; clear hi
  have HJ := Lib.hid hj; clear hj
  have HV := Lib.hid hk; clear hk
  have HZ := Lib.hid hz; clear hz
  have H1 := Lib.hid hc1; clear hc1
  have H2 := Lib.hid hc2; clear hc2
  have H3 := Lib.hid hx1; clear hx1
  have H4 := Lib.hid hy1; clear hy1
  have H5 := Lib.hid hp; clear hp
  have H6 := Lib.hid hr; clear hr
  go_enter Tryz.func20, Tryz.ntmps20
  go_wp2_with fail
  refine HQ.out.mono ?_; rintro e w' ⟨rfl, mm, rfl⟩
  go_wp2_with fail
  refine (l1in_c _ _ _ true HI.out _).mono ?_; rintro e w' ⟨rfl, rfl⟩
  go_wp2_with fail
  have HL := Lib.hid hl; clear hl
  refine (l1in_c _ _ _ true HJ.out _).mono ?_; rintro e w' ⟨rfl, rfl⟩
  go_wp2_with fail
  have hl := HL.out
  have hp := H5.out
  have hr := H6.out
  have hc1 := H1.out
  have hc2 := H2.out
  have hx1 := H3.out
  have hy1 := H4.out
  go_quiet (fail)
  rw [HZ.out]
  clear hc1 hc2 hx1 hy1 hp hr
  rcases (show z = 0 ∨ z = 1 ∨ z = 2 ∨ z = 3 ∨ ((z == 0) = false ∧ (z == 1) = false ∧ (z == 2) = false ∧ (z == 3) = false) by
    by_cases h0 : z = 0
    · exact Or.inl h0
    · by_cases h1 : z = 1
      · exact Or.inr (Or.inl h1)
      · by_cases h2 : z = 2
        · exact Or.inr (Or.inr (Or.inl h2))
        · by_cases h3 : z = 3
          · exact Or.inr (Or.inr (Or.inr (Or.inl h3)))
          · exact Or.inr (Or.inr (Or.inr (Or.inr ⟨beq_eq_false_iff_ne.2 h0, beq_eq_false_iff_ne.2 h1, beq_eq_false_iff_ne.2 h2, beq_eq_false_iff_ne.2 h3⟩)))) with rfl | rfl | rfl | rfl | ⟨g0, g1, g2, g3⟩
  · go_wp2_with fail
    go_ret
    exact ⟨ret_int (HV.out.trans rfl).symm, _, rfl⟩
  · go_wp2_with fail
    go_ret
    exact ⟨ret_int (HV.out.trans rfl).symm, _, rfl⟩
  · go_wp2_with fail
    go_ret
    exact ⟨ret_int (HV.out.trans rfl).symm, _, rfl⟩
  · go_wp2_with fail
    go_ret
    exact ⟨ret_int (HV.out.trans rfl).symm, _, rfl⟩
  · have hb : bondP z = 0 := by
      unfold bondP
      rw [beq_eq_false_iff_ne] at g0 g1 g2 g3
      rw [if_neg g0, if_neg g1, if_neg g2, if_neg g3]
    have HB := Lib.hid hb; clear hb
    go_wp2_with fail
    go_ret
    exact ⟨ret_int (HV.out.trans HB.out).symm, _, rfl⟩

set_option maxHeartbeats 4000000 in
set_option maxRecDepth 100000 in
theorem bondi_walk {b off rb roff rcap rb' roff' rcap' n cap p r : Nat} {w : World} {x y k z : Int}
    (hq : Calls Tryz.prog 13 #[.slice (some ⟨b, off, none⟩) n cap] w fun e w' => e = .returned (.bool true) ∧ ∃ m, w' = w.drewN m)
    (hi : ptB (p : Int) n = true) (hj : ptB (r : Int) n = true) (hl : n ≤ 2 ^ 63 - 1) (hp : p < n) (hr : r < n) (hne : ((p : Int) == (r : Int)) = false)
    (hc1 : w.cell? ⟨b, off + p, none⟩ = some (.slice (some ⟨rb, roff, none⟩) n rcap)) (hx1 : w.cell? ⟨rb, roff + r, none⟩ = some (.int .i64 x))
    (hc2 : w.cell? ⟨b, off + r, none⟩ = some (.slice (some ⟨rb', roff', none⟩) n rcap')) (hy1 : w.cell? ⟨rb', roff' + p, none⟩ = some (.int .i64 y))
    (hz : wrap64 (x * y) = z) (hk : k = bondP z) :
    Calls Tryz.prog 19 #[.slice (some ⟨b, off, none⟩) n cap, .int .i64 p, .int .i64 r] w fun e w' => e = .returned (.int .i64 k) ∧ ∃ q, w' = w.drewN q := by
  have HQ := Lib.hid hq; clear hq
  have HI := Lib.hid hi; clear hi
  have HJ := Lib.hid hj; clear hj
  have HV := Lib.hid hk; clear hk
  have HZ := Lib.hid hz; clear hz
  have H1 := Lib.hid hc1; clear hc1
  have H2 := Lib.hid hc2; clear hc2
  have H3 := Lib.hid hx1; clear hx1
  have H4 := Lib.hid hy1; clear hy1
  have H5 := Lib.hid hp; clear hp
  have H6 := Lib.hid hr; clear hr
  go_enter Tryz.func19, Tryz.ntmps19
  go_wp2_with fail
  refine HQ.out.mono ?_; rintro e w' ⟨rfl, mm, rfl⟩
  go_wp2_with fail
  refine (pt_c _ _ _ _ true HI.out _ hl).mono ?_; rintro e w' ⟨rfl, rfl⟩
  go_wp2_with fail
  refine (pt_c _ _ _ _ true HJ.out _ hl).mono ?_; rintro e w' ⟨rfl, rfl⟩
  have HL := Lib.hid hl; clear hl
  go_wp2_with fail
  have hl := HL.out
  have hp := H5.out
  have hr := H6.out
  have hc1 := H1.out
  have hc2 := H2.out
  have hx1 := H3.out
  have hy1 := H4.out
  go_quiet (fail)
  rw [HZ.out]
  clear hc1 hc2 hx1 hy1 hp hr
  rcases (show z = 0 ∨ z = 1 ∨ z = 2 ∨ z = 3 ∨ ((z == 0) = false ∧ (z == 1) = false ∧ (z == 2) = false ∧ (z == 3) = false) by
    by_cases h0 : z = 0
    · exact Or.inl h0
    · by_cases h1 : z = 1
      · exact Or.inr (Or.inl h1)
      · by_cases h2 : z = 2
        · exact Or.inr (Or.inr (Or.inl h2))
        · by_cases h3 : z = 3
          · exact Or.inr (Or.inr (Or.inr (Or.inl h3)))
          · exact Or.inr (Or.inr (Or.inr (Or.inr ⟨beq_eq_false_iff_ne.2 h0, beq_eq_false_iff_ne.2 h1, beq_eq_false_iff_ne.2 h2, beq_eq_false_iff_ne.2 h3⟩)))) with rfl | rfl | rfl | rfl | ⟨g0, g1, g2, g3⟩
  · go_wp2_with fail
    go_ret
    exact ⟨ret_int (HV.out.trans rfl).symm, _, rfl⟩
  · go_wp2_with fail
    go_ret
    exact ⟨ret_int (HV.out.trans rfl).symm, _, rfl⟩
  · go_wp2_with fail
    go_ret
    exact ⟨ret_int (HV.out.trans rfl).symm, _, rfl⟩
  · go_wp2_with fail
    go_ret
    exact ⟨ret_int (HV.out.trans rfl).symm, _, rfl⟩
  · have hb : bondP z = 0 := by
      unfold bondP
      rw [beq_eq_false_iff_ne] at g0 g1 g2 g3
      rw [if_neg g0, if_neg g1, if_neg g2, if_neg g3]
    have HB := Lib.hid hb; clear hb
    go_wp2_with fail
    go_ret
    exact ⟨ret_int (HV.out.trans HB.out).symm, _, rfl⟩

set_option maxHeartbeats 4000000 in
set_option maxRecDepth 100000 in
theorem bonds_any (B : Nat) (v : Value) (m : List (List Int)) (i j : Int) (w : World) (h : MatB B w v m) (hf : RowsFit m) :
    Calls Tryz.prog 20 #[v, .int .i64 i, .int .i64 j] w fun e w' => e = .returned (.int .i64 (bond m i j)) ∧ ∃ q, w' = w.drewN q := by
  have hl := hf.1
  unfold maxLen at hl
  obtain ⟨a, cap, rfl⟩ := h.slice
  by_cases hI : IsC m
  · have HQ := Lib.hid (isc_0 B _ m true (isB_yes hI) w h hf)
    by_cases hi : 0 ≤ i ∧ i ≤ (m.length : Int) - 1
    · have HI := Lib.hid (inB_yes hi)
      by_cases hj : 0 ≤ j ∧ j ≤ (m.length : Int) - 1
      · have HJ := Lib.hid (inB_yes hj)
        obtain ⟨p, rfl⟩ := Int.eq_ofNat_of_zero_le hi.1
        obtain ⟨r, rfl⟩ := Int.eq_ofNat_of_zero_le hj.1
        have hp : p < m.length := by omega
        have hr : r < m.length := by omega
        by_cases hpr : p = r
        · subst hpr
          have hv := bond_eq hI hp
          have HV := Lib.hid hv; clear hv hI h hf hi hj
          generalize m.length = n at *
          go_enter Tryz.func20, Tryz.ntmps20
          go_wp2_with fail
          refine HQ.out.mono ?_; rintro e w' ⟨rfl, mm, rfl⟩
          go_wp2_with fail
          refine (l1in_c _ _ _ true HI.out _).mono ?_; rintro e w' ⟨rfl, rfl⟩
          go_wp2_with fail
          refine (l1in_c _ _ _ true HJ.out _).mono ?_; rintro e w' ⟨rfl, rfl⟩
          go_wp2_with fail
          go_ret
          exact ⟨ret_int HV.out.symm, _, rfl⟩
        · have hv := bond_ne hI hp hr hpr
          have hx := isc_in hI hp hr hpr
          have hy := isc_in hI hr hp (fun e => hpr e.symm)
          obtain ⟨b, off, rb, roff, rcap, rfl, hc1, hx1⟩ := h.entry hI.1 hp hr
          obtain ⟨b', off', rb', roff', rcap', hab, hc2, hy1⟩ := h.entry hI.1 hr hp
          injection hab with hab
          injection hab with hab1 hab2
          subst hab1
          subst hab2
          have hne : ((p : Int) == (r : Int)) = false := by rw [beq_eq_false_iff_ne]; omega
          exact bonds_walk HQ.out HI.out HJ.out hl hp hr hne hc1 hx1 hc2 hy1 (wrap_prod hx hy) hv
      · have HJ := Lib.hid (inB_no hj)
        have hv := bond_no (i := i) (j := j) (fun x => hj x.2.2)
        have HV := Lib.hid hv; clear hv hI h hf hi hj
        generalize m.length = n at *
        go_enter Tryz.func20, Tryz.ntmps20
        go_wp2_with fail
        refine HQ.out.mono ?_; rintro e w' ⟨rfl, mm, rfl⟩
        go_wp2_with fail
        refine (l1in_c _ _ _ true HI.out _).mono ?_; rintro e w' ⟨rfl, rfl⟩
        go_wp2_with fail
        refine (l1in_c _ _ _ false HJ.out _).mono ?_; rintro e w' ⟨rfl, rfl⟩
        go_wp2_with fail
        go_ret
        exact ⟨ret_int HV.out.symm, _, rfl⟩
    · have HI := Lib.hid (inB_no hi)
      have hv := bond_no (i := i) (j := j) (fun x => hi x.2.1)
      have HV := Lib.hid hv; clear hv hI h hf hi
      generalize m.length = n at *
      go_enter Tryz.func20, Tryz.ntmps20
      go_wp2_with fail
      refine HQ.out.mono ?_; rintro e w' ⟨rfl, mm, rfl⟩
      go_wp2_with fail
      refine (l1in_c _ _ _ false HI.out _).mono ?_; rintro e w' ⟨rfl, rfl⟩
      go_wp2_with fail
      go_ret
      exact ⟨ret_int HV.out.symm, _, rfl⟩
  · have HQ := Lib.hid (isc_0 B _ m false (isB_no hI) w h hf)
    have hv := bond_no (i := i) (j := j) (fun x => hI x.1)
    have HV := Lib.hid hv; clear hv hI h hf
    generalize m.length = n at *
    go_enter Tryz.func20, Tryz.ntmps20
    go_wp2_with fail
    refine HQ.out.mono ?_; rintro e w' ⟨rfl, mm, rfl⟩
    go_wp2_with fail
    go_ret
    exact ⟨ret_int HV.out.symm, _, rfl⟩

set_option maxHeartbeats 4000000 in
set_option maxRecDepth 100000 in
theorem bondi_any (B : Nat) (v : Value) (m : List (List Int)) (i j : Int) (w : World) (h : MatB B w v m) (hf : RowsFit m) :
    Calls Tryz.prog 19 #[v, .int .i64 i, .int .i64 j] w fun e w' => e = .returned (.int .i64 (bond m i j)) ∧ ∃ q, w' = w.drewN q := by
  have hl := hf.1
  unfold maxLen at hl
  obtain ⟨a, cap, rfl⟩ := h.slice
  by_cases hI : IsC m
  · have HQ := Lib.hid (icm_0 B _ m true (isB_yes hI) w h hf)
    by_cases hi : 0 ≤ i ∧ i ≤ (m.length : Int) - 1
    · have HI := Lib.hid (ptB_yes hi)
      by_cases hj : 0 ≤ j ∧ j ≤ (m.length : Int) - 1
      · have HJ := Lib.hid (ptB_yes hj)
        obtain ⟨p, rfl⟩ := Int.eq_ofNat_of_zero_le hi.1
        obtain ⟨r, rfl⟩ := Int.eq_ofNat_of_zero_le hj.1
        have hp : p < m.length := by omega
        have hr : r < m.length := by omega
        by_cases hpr : p = r
        · subst hpr
          have hv := bond_eq hI hp
          have HV := Lib.hid hv; clear hv hI h hf hi hj
          generalize m.length = n at *
          go_enter Tryz.func19, Tryz.ntmps19
          go_wp2_with fail
          refine HQ.out.mono ?_; rintro e w' ⟨rfl, mm, rfl⟩
          go_wp2_with fail
          refine (pt_c _ _ _ _ true HI.out _ hl).mono ?_; rintro e w' ⟨rfl, rfl⟩
          go_wp2_with fail
          refine (pt_c _ _ _ _ true HJ.out _ hl).mono ?_; rintro e w' ⟨rfl, rfl⟩
          go_wp2_with fail
          go_ret
          exact ⟨ret_int HV.out.symm, _, rfl⟩
        · have hv := bond_ne hI hp hr hpr
          have hx := isc_in hI hp hr hpr
          have hy := isc_in hI hr hp (fun e => hpr e.symm)
          obtain ⟨b, off, rb, roff, rcap, rfl, hc1, hx1⟩ := h.entry hI.1 hp hr
          obtain ⟨b', off', rb', roff', rcap', hab, hc2, hy1⟩ := h.entry hI.1 hr hp
          injection hab with hab
          injection hab with hab1 hab2
          subst hab1
          subst hab2
          have hne : ((p : Int) == (r : Int)) = false := by rw [beq_eq_false_iff_ne]; omega
          exact bondi_walk HQ.out HI.out HJ.out hl hp hr hne hc1 hx1 hc2 hy1 (wrap_prod hx hy) hv
      · have HJ := Lib.hid (ptB_no hj)
        have hv := bond_no (i := i) (j := j) (fun x => hj x.2.2)
        have HV := Lib.hid hv; clear hv hI h hf hi hj
        generalize m.length = n at *
        go_enter Tryz.func19, Tryz.ntmps19
        go_wp2_with fail
        refine HQ.out.mono ?_; rintro e w' ⟨rfl, mm, rfl⟩
        go_wp2_with fail
        refine (pt_c _ _ _ _ true HI.out _ hl).mono ?_; rintro e w' ⟨rfl, rfl⟩
        go_wp2_with fail
        refine (pt_c _ _ _ _ false HJ.out _ hl).mono ?_; rintro e w' ⟨rfl, rfl⟩
        go_wp2_with fail
        go_ret
        exact ⟨ret_int HV.out.symm, _, rfl⟩
    · have HI := Lib.hid (ptB_no hi)
      have hv := bond_no (i := i) (j := j) (fun x => hi x.2.1)
      have HV := Lib.hid hv; clear hv hI h hf hi
      generalize m.length = n at *
      go_enter Tryz.func19, Tryz.ntmps19
      go_wp2_with fail
      refine HQ.out.mono ?_; rintro e w' ⟨rfl, mm, rfl⟩
      go_wp2_with fail
      refine (pt_c _ _ _ _ false HI.out _ hl).mono ?_; rintro e w' ⟨rfl, rfl⟩
      go_wp2_with fail
      go_ret
      exact ⟨ret_int HV.out.symm, _, rfl⟩
  · have HQ := Lib.hid (icm_0 B _ m false (isB_no hI) w h hf)
    have hv := bond_no (i := i) (j := j) (fun x => hI x.1)
    have HV := Lib.hid hv; clear hv hI h hf
    generalize m.length = n at *
    go_enter Tryz.func19, Tryz.ntmps19
    go_wp2_with fail
    refine HQ.out.mono ?_; rintro e w' ⟨rfl, mm, rfl⟩
    go_wp2_with fail
    go_ret
    exact ⟨ret_int HV.out.symm, _, rfl⟩

theorem bonds_b (B : Nat) (v : Value) (m : List (List Int)) (i j : Int) (w : World) (h : MatB B w v m) (hf : RowsFit m) :
    Calls Tryz.prog 20 #[v, .int .i64 i, .int .i64 j] w fun e w' => e = .returned (.int .i64 (bond m i j)) ∧ Below w.heap.size w w' :=
  (bonds_any B v m i j w h hf).mono fun e w' ⟨h1, q, h2⟩ => ⟨h1, by rw [h2]; exact below_drewN q⟩
theorem bondi_b (B : Nat) (v : Value) (m : List (List Int)) (i j : Int) (w : World) (h : MatB B w v m) (hf : RowsFit m) :
    Calls Tryz.prog 19 #[v, .int .i64 i, .int .i64 j] w fun e w' => e = .returned (.int .i64 (bond m i j)) ∧ Below w.heap.size w w' :=
  (bondi_any B v m i j w h hf).mono fun e w' ⟨h1, q, h2⟩ => ⟨h1, by rw [h2]; exact below_drewN q⟩
end Go.Proofs.YtppimgkampkfjaaGreatDoor
