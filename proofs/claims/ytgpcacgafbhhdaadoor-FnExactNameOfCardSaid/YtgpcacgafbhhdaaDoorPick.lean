/-
  pickPoints of the program: what the call returns; matrices filled entry by entry.
-/
import Derived.Test.YtgpcacgafbhhdaaDoorNb
import Derived.Deep.RegionHeld3
import Derived.Deep.DrawnRows
namespace Go.Proofs.YtgpcacgafbhhdaaDoor
open Go.RowKit

/-! ### A matrix filled row by row -/
def rowF (f : Nat → Nat → Int) (n r : Nat) : List Int := (List.range n).map (f r)
def fullF (f : Nat → Nat → Int) (n : Nat) : List (List Int) := (List.range n).map (rowF f n)
def fillF (f : Nat → Nat → Int) (n k j : Nat) : List (List Int) := (List.range n).map fun r => (List.range n).map fun c => if r < k ∨ (r = k ∧ c < j) then f r c else 0
theorem rowF_len (f : Nat → Nat → Int) (n r : Nat) : (rowF f n r).length = n := by simp [rowF]
theorem fullF_len (f : Nat → Nat → Int) (n : Nat) : (fullF f n).length = n := by simp [fullF]
theorem fillF_len (f : Nat → Nat → Int) (n k j : Nat) : (fillF f n k j).length = n := by simp [fillF]
theorem rowF_step (f : Nat → Nat → Int) (n r c : Nat) (h : c < n) : (rowF f n r).take c ++ [f r c] = (rowF f n r).take (c + 1) := by
  rw [List.take_succ_eq_append_getElem (by rw [rowF_len]; exact h)]; simp [rowF]
theorem fullF_step (f : Nat → Nat → Int) (n r : Nat) (h : r < n) : (fullF f n).take r ++ [rowF f n r] = (fullF f n).take (r + 1) := by
  rw [List.take_succ_eq_append_getElem (by rw [fullF_len]; exact h)]; simp [fullF]
theorem rowF_end (f : Nat → Nat → Int) (n r : Nat) : (rowF f n r).take n = rowF f n r := List.take_of_length_le (by rw [rowF_len]; exact Nat.le_refl _)
theorem fullF_end (f : Nat → Nat → Int) (n : Nat) : (fullF f n).take n = fullF f n := List.take_of_length_le (by rw [fullF_len]; exact Nat.le_refl _)
theorem fillF_row (f : Nat → Nat → Int) (n k j r : Nat) (h : r < n) : ((fillF f n k j).getD r []).length = n := by simp [fillF, List.getD, h]
theorem fillF_zero (f : Nat → Nat → Int) (n : Nat) : fillF f n 0 0 = zeros n := by
  apply List.ext_getElem
  · simp [fillF, zeros]
  · intro i h1 h2
    simp only [fillF, zeros, zerosR, List.getElem_map, List.getElem_range, List.getElem_replicate]
    apply List.ext_getElem
    · simp
    · intro c h3 h4; simp
theorem fillF_next (f : Nat → Nat → Int) (n k : Nat) : fillF f n k n = fillF f n (k + 1) 0 := by
  unfold fillF
  apply List.map_congr_left
  intro r _
  apply List.map_congr_left
  intro c hc
  have hc : c < n := by simpa using hc
  by_cases h : r ≤ k
  · rw [if_pos (by omega), if_pos (by omega)]
  · rw [if_neg (by omega), if_neg (by omega)]
theorem fillF_end (f : Nat → Nat → Int) (n : Nat) : fillF f n n 0 = fullF f n := by
  unfold fillF fullF rowF
  apply List.map_congr_left
  intro r hr
  have hr : r < n := by simpa using hr
  apply List.map_congr_left
  intro c _
  rw [if_pos (by omega)]
theorem fillF_step (f : Nat → Nat → Int) (n k j : Nat) (hk : k < n) (hj : j < n) : set2 (fillF f n k j) k j (f k j) = fillF f n k (j + 1) := by
  apply List.ext_getElem
  · simp [fillF, set2]
  · intro i h1 h2
    have hi : i < n := by simpa [fillF] using h2
    by_cases hik : i = k
    · subst hik
      rw [set2_at]
      have hg : (fillF f n i j).getD i [] = (List.range n).map fun c => if i < i ∨ (i = i ∧ c < j) then f i c else 0 := by simp [fillF, List.getD, hi]
      rw [hg]
      simp only [fillF, List.getElem_map, List.getElem_range]
      apply List.ext_getElem
      · simp
      · intro c h3 h4
        rw [List.getElem_set]
        simp only [List.getElem_map, List.getElem_range]
        by_cases hc : j = c
        · subst hc
          simp
        · rw [if_neg hc]
          by_cases hlt : c < j
          · simp [hlt, show c < j + 1 by omega]
          · simp [hlt, show ¬ c < j + 1 by omega]
    · rw [set2_ne _ _ _ _ _ _ (by rw [fillF_len]; exact hi) hik]
      simp only [fillF, List.getElem_map, List.getElem_range]
      apply List.map_congr_left
      intro c _
      by_cases hc : i < k ∨ (i = k ∧ c < j)
      · rw [if_pos hc, if_pos (by omega)]
      · rw [if_neg hc, if_neg (by omega)]
theorem fullF_small (f : Nat → Nat → Int) (n : Nat) (h : n ≤ 1000) : szSum (fullF f n) ≤ 1048576 := by
  have : (fullF f n).map List.length = List.replicate n n := by
    apply List.ext_getElem
    · simp [fullF]
    · intro i h1 h2; simp [fullF, rowF]
  unfold szSum
  rw [fullF_len, this, List.sum_replicate_nat]
  have : n * n ≤ 1000 * 1000 := Nat.mul_le_mul h h
  omega

/-! ### Points of a matrix -/
def ptsF (m : List (List Int)) (l : List Int) (r c : Nat) : Int := entry m (l.getD r 0).toNat (l.getD c 0).toNat
def pick (m : List (List Int)) (l : List Int) : List (List Int) := fullF (ptsF m l) l.length
def AllPt (n : Nat) (l : List Int) : Prop := ∀ k, k < l.length → 0 ≤ l.getD k 0 ∧ l.getD k 0 ≤ (n : Int) - 1
theorem RowB.getD {B : Nat} {w : World} {a : Option Addr} {n cap : Nat} {l : List Int} (h : RowB B w (.slice a n cap) l) {j : Nat} (hj : j < n) :
    ∃ b off, a = some ⟨b, off, none⟩ ∧ b < B ∧ w.cell? ⟨b, off + j, none⟩ = some (.int .i64 (l.getD j 0)) := by
  obtain ⟨b, off, hl, h1, h2, h3⟩ := h.get hj
  exact ⟨b, off, h1, h2, by rw [h3]; simp [List.getD, hl]⟩

set_option maxHeartbeats 4000000 in
set_option maxRecDepth 100000 in
theorem pickp_any (B B' : Nat) (v v' : Value) (m : List (List Int)) (l : List Int) (w : World) (h : MatB B w v m) (h' : RowB B' w v' l) (hB : B ≤ w.heap.size) (hB' : B' ≤ w.heap.size) (hf : RowsFit m)
    (hrows : Rows0 m m.length m.length) (hp : AllPt m.length l) (hll : l.length ≤ 1000) :
    Calls Tryd.prog 28 #[v, v'] w (MakesM w (pick m l)) := by
  obtain ⟨a, cap, rfl⟩ := h.slice
  obtain ⟨a', cap', rfl⟩ := h'.slice
  have hl := hf.1
  have HR := Lib.hid h; clear h
  have HL := Lib.hid h'; clear h'
  have HF := Lib.hid hf; clear hf
  have HRW := Lib.hid hrows; clear hrows
  have HP := Lib.hid hp; clear hp
  have HPK := Lib.hid (show pick m l = fullF (ptsF m l) l.length from rfl)
  generalize pick m l = R at *
  generalize hn : m.length = n at *
  unfold maxLen at hl
  have HN := Lib.hid hn; clear hn
  generalize hln : l.length = L at *
  have HLN := Lib.hid hln; clear hln
  go_enter Tryd.func28, Tryd.ntmps28
  go_wp2_with fail
  refine (zm_any L w (by omega)).mono ?_
  rintro e w2 ⟨x, rfl, ⟨hm2, _⟩, hb2⟩
  have hz := zeros_len L
  obtain ⟨ra, rcap0, rfl⟩ := hm2.slice
  rw [hz] at hm2 ⊢
  rw [← fillF_zero (ptsF m l) L] at hm2
  have HM := Lib.hid hm2; clear hm2 hz
  have HB2 := Lib.hid hb2; clear hb2
  go_wp2_with fail
  go_loopw [15] (fun i wr => ∃ (k : Nat) (wq : World), wq = wr ∧ k ≤ L ∧ i = .int .i64 k ∧ MatI w.heap.size w2.heap.size wq (.slice ra L rcap0) (fillF (ptsF m l) L k 0) ∧ Below w.heap.size w wq ∧ wq.heap.size = w2.heap.size) (fun i _ => L - (intOf i).toNat)
  case atStart => exact ⟨0, _, rfl, Nat.zero_le _, rfl, HM.out, HB2.out, rfl⟩
  case round =>
    obtain ⟨k, wq, rfl, hk, rfl, hM, hb, hsq⟩ := hrel
    have HMQ := Lib.hid hM; clear hM
    have HBQ := Lib.hid hb; clear hb
    have HSQ := Lib.hid hsq; clear hsq
    by_cases hlt : k < L
    · obtain ⟨lb, loff, rfl, hlb, hlc⟩ := (HL.out.below HBQ.out hB').getD hlt
      obtain ⟨hp0, hp1⟩ := HP.out k (by rw [HLN.out]; exact hlt)
      obtain ⟨p, hpe⟩ := Int.eq_ofNat_of_zero_le hp0
      have hpn : p < n := by omega
      have HPE := Lib.hid hpe
      rw [hpe] at hlc
      clear hp0 hp1 hpe
      have hlb2 : lb < w.heap.size := by omega
      have HLB := Lib.hid hlb2; clear hlb2 hlb
      go_wp2_with fail
      clear hlc
      go_loopw [22] (fun i wr => ∃ (j : Nat) (wi : World), wi = wr ∧ j ≤ L ∧ i = .int .i64 j ∧ MatI w.heap.size w2.heap.size wi (.slice ra L rcap0) (fillF (ptsF m l) L k j) ∧ Below w.heap.size w wi ∧ wi.heap.size = w2.heap.size) (fun i _ => L - (intOf i).toNat)
      case atStart => exact ⟨0, _, rfl, Nat.zero_le _, rfl, HMQ.out, HBQ.out, HSQ.out⟩
      case round =>
        obtain ⟨j, wi, rfl, hj, rfl, hM, hb, hsi⟩ := hrel
        have HMI := Lib.hid hM; clear hM
        have HBI := Lib.hid hb; clear hb
        have HSI := Lib.hid hsi; clear hsi
        by_cases hjn : j < L
        · obtain ⟨lb', loff', hla, hlb', hlc'⟩ := (HL.out.below HBI.out hB').getD hjn
          injection hla with hla
          injection hla with hla1 hla2
          subst hla1
          subst hla2
          obtain ⟨hp0, hp1⟩ := HP.out j (by rw [HLN.out]; exact hjn)
          obtain ⟨q, hqe⟩ := Int.eq_ofNat_of_zero_le hp0
          have hqn : q < n := by omega
          have hpt : ptsF m l k j = entry m p q := by unfold ptsF; rw [HPE.out, hqe]; rfl
          rw [hqe] at hlc'
          clear hp0 hp1 hqe hlb'
          obtain ⟨b, off, rb, roff, rcap, rfl, hc1, hx⟩ := (HR.out.below HBI.out hB).entry HRW.out hpn hqn
          obtain ⟨g, r, orcap, rfl, ho1, ho2, ho3, ho4, ho5, hput⟩ := HMI.out.put (j := k) (c := j) (by rw [fillF_len]; exact hlt) (by rw [fillF_row _ _ _ _ _ hlt]; exact hjn)
          rw [fillF_row _ _ _ _ _ hlt] at ho1
          have hp := hput (entry m p q)
          rw [← hpt, fillF_step _ _ _ _ hlt hjn, hpt] at hp
          have HPP := Lib.hid hp
          have HBS := Lib.hid (HBI.out.setCell (p := ⟨r, j, none⟩) ho4 (.int .i64 (entry m p q)))
          have hszz : (wi.setCell ⟨r, j, none⟩ (.int .i64 (entry m p q))).heap.size = w2.heap.size := by rw [World.size_setCell]; exact HSI.out
          have HSS := Lib.hid hszz
          clear hput hp hszz hpt
          generalize entry m p q = x at *
          generalize ((fillF (ptsF m l) L k j).getD k []).getD j 0 = y at *
          go_wp2_with fail
          go_region
          go_wp2_with fail
          exact ⟨⟨j + 1, _, rfl, by omega, by go_num, HPP.out, HBS.out.drew, HSS.out⟩, by simp [intOf]; omega⟩
        · obtain rfl : j = L := by omega
          go_wp2_with fail
          exact ⟨⟨k + 1, _, rfl, by omega, by go_num, by rw [← fillF_next]; exact HMI.out, HBI.out, HSI.out⟩, by simp [intOf]; omega⟩
    · obtain rfl : k = L := by omega
      go_wp2_with fail
      go_ret
      have hM := HMQ.out
      rw [fillF_end] at hM
      exact ⟨_, rfl, by rw [HPK.out, HSQ.out]; exact ⟨hM, by rw [HSQ.out]; exact Nat.le_refl _⟩, HBQ.out⟩
end Go.Proofs.YtgpcacgafbhhdaaDoor
