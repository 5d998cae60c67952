/-
  pickPoints of the program: what the call returns; matrices filled entry by entry.
  SubCartan of the model and of the program: what each call returns.
  Determinants of the model: l4Without and l4Det, what the calls return.
  SubCartan of the model: what the call returns.
  A search through a graph of at most four points, as both sides walk it, and what it finds (no walk here).
-/
import Derived.Deep.RegionHeld3
import Derived.Deep.DrawnRows
import Derived.Test.YtcmnkhblnlmfpaaGreatDoorFW15
import Derived.Test.YtcmnkhblnlmfpaaGreatDoorFW20
import Derived.BigQuiet
import Derived.Test.YtcmnkhblnlmfpaaGreatDoorFW08
import Derived.Test.YtcmnkhblnlmfpaaGreatDoorFW01
namespace Go.Proofs.YtcmnkhblnlmfpaaGreatDoor
open Go.RowKit

/-! ### A matrix filled row by row -/
def rowF (f : Nat → Nat → Int) (n r : Nat) : List Int := (List.range n).map (f r)
def fullF (f : Nat → Nat → Int) (n : Nat) : List (List Int) := (List.range n).map (rowF f n)
def fillF (f : Nat → Nat → Int) (n k j : Nat) : List (List Int) := (List.range n).map fun r => (List.range n).map fun c => if r < k ∨ (r = k ∧ c < j) then f r c else 0
theorem rowF_len (f : Nat → Nat → Int) (n r : Nat) : (rowF f n r).length = n := by simp [rowF]
theorem fullF_len (f : Nat → Nat → Int) (n : Nat) : (fullF f n).length = n := by simp [fullF]
theorem fillF_len (f : Nat → Nat → Int) (n k j : Nat) : (fillF f n k j).length = n := by simp [fillF]
theorem rowF_step (f : Nat → Nat → Int) (n r c : Nat) (h : c < n) : (rowF f n r).take c ++ [f r c] = (rowF f n r).take (c + 1) := by
  rw [List.take_succ_eq_append_getElem (by rw [rowF_len]; exact h)]; simp [rowF]
theorem fullF_step (f : Nat → Nat → Int) (n r : Nat) (h : r < n) : (fullF f n).take r ++ [rowF f n r] = (fullF f n).take (r + 1) := by
  rw [List.take_succ_eq_append_getElem (by rw [fullF_len]; exact h)]; simp [fullF]
theorem rowF_end (f : Nat → Nat → Int) (n r : Nat) : (rowF f n r).take n = rowF f n r := List.take_of_length_le (by rw [rowF_len]; exact Nat.le_refl _)
theorem fullF_end (f : Nat → Nat → Int) (n : Nat) : (fullF f n).take n = fullF f n := List.take_of_length_le (by rw [fullF_len]; exact Nat.le_refl _)
theorem fillF_row (f : Nat → Nat → Int) (n k j r : Nat) (h : r < n) : ((fillF f n k j).getD r []).length = n := by simp [fillF, List.getD, h]
theorem fillF_zero (f : Nat → Nat → Int) (n : Nat) : fillF f n 0 0 = zeros n := by
  apply List.ext_getElem
  · simp [fillF, zeros]
  · intro i h1 h2
    simp only [fillF, zeros, zerosR, List.getElem_map, List.getElem_range, List.getElem_replicate]
    apply List.ext_getElem
    · simp
    · intro c h3 h4; simp
theorem fillF_next (f : Nat → Nat → Int) (n k : Nat) : fillF f n k n = fillF f n (k + 1) 0 := by
  unfold fillF
  apply List.map_congr_left
  intro r _
  apply List.map_congr_left
  intro c hc
  have hc : c < n := by simpa using hc
  by_cases h : r ≤ k
  · rw [if_pos (by omega), if_pos (by omega)]
  · rw [if_neg (by omega), if_neg (by omega)]
theorem fillF_end (f : Nat → Nat → Int) (n : Nat) : fillF f n n 0 = fullF f n := by
  unfold fillF fullF rowF
  apply List.map_congr_left
  intro r hr
  have hr : r < n := by simpa using hr
  apply List.map_congr_left
  intro c _
  rw [if_pos (by omega)]
theorem fillF_step (f : Nat → Nat → Int) (n k j : Nat) (hk : k < n) (hj : j < n) : set2 (fillF f n k j) k j (f k j) = fillF f n k (j + 1) := by
  apply List.ext_getElem
  · simp [fillF, set2]
  · intro i h1 h2
    have hi : i < n := by simpa [fillF] using h2
    by_cases hik : i = k
    · subst hik
      rw [set2_at]
      have hg : (fillF f n i j).getD i [] = (List.range n).map fun c => if i < i ∨ (i = i ∧ c < j) then f i c else 0 := by simp [fillF, List.getD, hi]
      rw [hg]
      simp only [fillF, List.getElem_map, List.getElem_range]
      apply List.ext_getElem
      · simp
      · intro c h3 h4
        rw [List.getElem_set]
        simp only [List.getElem_map, List.getElem_range]
        by_cases hc : j = c
        · subst hc
          simp
        · rw [if_neg hc]
          by_cases hlt : c < j
          · simp [hlt, show c < j + 1 by omega]
          · simp [hlt, show ¬ c < j + 1 by omega]
    · rw [set2_ne _ _ _ _ _ _ (by rw [fillF_len]; exact hi) hik]
      simp only [fillF, List.getElem_map, List.getElem_range]
      apply List.map_congr_left
      intro c _
      by_cases hc : i < k ∨ (i = k ∧ c < j)
      · rw [if_pos hc, if_pos (by omega)]
      · rw [if_neg hc, if_neg (by omega)]
theorem fullF_small (f : Nat → Nat → Int) (n : Nat) (h : n ≤ 1000) : szSum (fullF f n) ≤ 1048576 := by
  have : (fullF f n).map List.length = List.replicate n n := by
    apply List.ext_getElem
    · simp [fullF]
    · intro i h1 h2; simp [fullF, rowF]
  unfold szSum
  rw [fullF_len, this, List.sum_replicate_nat]
  have : n * n ≤ 1000 * 1000 := Nat.mul_le_mul h h
  omega

/-! ### Points of a matrix -/
def ptsF (m : List (List Int)) (l : List Int) (r c : Nat) : Int := entry m (l.getD r 0).toNat (l.getD c 0).toNat
def pick (m : List (List Int)) (l : List Int) : List (List Int) := fullF (ptsF m l) l.length
def AllPt (n : Nat) (l : List Int) : Prop := ∀ k, k < l.length → 0 ≤ l.getD k 0 ∧ l.getD k 0 ≤ (n : Int) - 1
set_option maxHeartbeats 4000000 in
set_option maxRecDepth 100000 in
theorem pickp_any (B B' : Nat) (v v' : Value) (m : List (List Int)) (l : List Int) (w : World) (h : MatB B w v m) (h' : RowB B' w v' l) (hB : B ≤ w.heap.size) (hB' : B' ≤ w.heap.size) (hf : RowsFit m)
    (hrows : Rows0 m m.length m.length) (hp : AllPt m.length l) (hll : l.length ≤ 1000) :
    Calls Tryz.prog 92 #[v, v'] w (MakesM w (pick m l)) := by
  obtain ⟨a, cap, rfl⟩ := h.slice
  obtain ⟨a', cap', rfl⟩ := h'.slice
  have hl := hf.1
  have HR := Lib.hid h; clear h
  have HL := Lib.hid h'; clear h'
  have HF := Lib.hid hf; clear hf
  have HRW := Lib.hid hrows; clear hrows
  have HP := Lib.hid hp; clear hp
  have HPK := Lib.hid (show pick m l = fullF (ptsF m l) l.length from rfl)
  generalize pick m l = R at *
  generalize hn : m.length = n at *
  unfold maxLen at hl
  have HN := Lib.hid hn; clear hn
  generalize hln : l.length = L at *
  have HLN := Lib.hid hln; clear hln
  go_enter Tryz.func92, Tryz.ntmps92
  go_wp2_with fail
  refine (zm_any L w (by omega)).mono ?_
  rintro e w2 ⟨x, rfl, ⟨hm2, _⟩, hb2⟩
  have hz := zeros_len L
  obtain ⟨ra, rcap0, rfl⟩ := hm2.slice
  rw [hz] at hm2 ⊢
  rw [← fillF_zero (ptsF m l) L] at hm2
  have HM := Lib.hid hm2; clear hm2 hz
  have HB2 := Lib.hid hb2; clear hb2
  go_wp2_with fail
  go_loopw [15] (fun i wr => ∃ (k : Nat) (wq : World), wq = wr ∧ k ≤ L ∧ i = .int .i64 k ∧ MatI w.heap.size w2.heap.size wq (.slice ra L rcap0) (fillF (ptsF m l) L k 0) ∧ Below w.heap.size w wq ∧ wq.heap.size = w2.heap.size) (fun i _ => L - (intOf i).toNat)
  case atStart => exact ⟨0, _, rfl, Nat.zero_le _, rfl, HM.out, HB2.out, rfl⟩
  case round =>
    obtain ⟨k, wq, rfl, hk, rfl, hM, hb, hsq⟩ := hrel
    have HMQ := Lib.hid hM; clear hM
    have HBQ := Lib.hid hb; clear hb
    have HSQ := Lib.hid hsq; clear hsq
    by_cases hlt : k < L
    · obtain ⟨lb, loff, rfl, hlb, hlc⟩ := (HL.out.below HBQ.out hB').getD hlt
      obtain ⟨hp0, hp1⟩ := HP.out k (by rw [HLN.out]; exact hlt)
      obtain ⟨p, hpe⟩ := Int.eq_ofNat_of_zero_le hp0
      have hpn : p < n := by omega
      have HPE := Lib.hid hpe
      rw [hpe] at hlc
      clear hp0 hp1 hpe
      have hlb2 : lb < w.heap.size := by omega
      have HLB := Lib.hid hlb2; clear hlb2 hlb
      go_wp2_with fail
      clear hlc
      go_loopw [22] (fun i wr => ∃ (j : Nat) (wi : World), wi = wr ∧ j ≤ L ∧ i = .int .i64 j ∧ MatI w.heap.size w2.heap.size wi (.slice ra L rcap0) (fillF (ptsF m l) L k j) ∧ Below w.heap.size w wi ∧ wi.heap.size = w2.heap.size) (fun i _ => L - (intOf i).toNat)
      case atStart => exact ⟨0, _, rfl, Nat.zero_le _, rfl, HMQ.out, HBQ.out, HSQ.out⟩
      case round =>
        obtain ⟨j, wi, rfl, hj, rfl, hM, hb, hsi⟩ := hrel
        have HMI := Lib.hid hM; clear hM
        have HBI := Lib.hid hb; clear hb
        have HSI := Lib.hid hsi; clear hsi
        by_cases hjn : j < L
        · obtain ⟨lb', loff', hla, hlb', hlc'⟩ := (HL.out.below HBI.out hB').getD hjn
          injection hla with hla
          injection hla with hla1 hla2
          subst hla1
          subst hla2
          obtain ⟨hp0, hp1⟩ := HP.out j (by rw [HLN.out]; exact hjn)
          obtain ⟨q, hqe⟩ := Int.eq_ofNat_of_zero_le hp0
          have hqn : q < n := by omega
          have hpt : ptsF m l k j = entry m p q := by unfold ptsF; rw [HPE.out, hqe]; rfl
          rw [hqe] at hlc'
          clear hp0 hp1 hqe hlb'
          obtain ⟨b, off, rb, roff, rcap, rfl, hc1, hx⟩ := (HR.out.below HBI.out hB).entry HRW.out hpn hqn
          obtain ⟨g, r, orcap, rfl, ho1, ho2, ho3, ho4, ho5, hput⟩ := HMI.out.put (j := k) (c := j) (by rw [fillF_len]; exact hlt) (by rw [fillF_row _ _ _ _ _ hlt]; exact hjn)
          rw [fillF_row _ _ _ _ _ hlt] at ho1
          have hp := hput (entry m p q)
          rw [← hpt, fillF_step _ _ _ _ hlt hjn, hpt] at hp
          have HPP := Lib.hid hp
          have HBS := Lib.hid (HBI.out.setCell (p := ⟨r, j, none⟩) ho4 (.int .i64 (entry m p q)))
          have hszz : (wi.setCell ⟨r, j, none⟩ (.int .i64 (entry m p q))).heap.size = w2.heap.size := by rw [World.size_setCell]; exact HSI.out
          have HSS := Lib.hid hszz
          clear hput hp hszz hpt
          generalize entry m p q = x at *
          generalize ((fillF (ptsF m l) L k j).getD k []).getD j 0 = y at *
          go_wp2_with fail
          go_region
          go_wp2_with fail
          exact ⟨⟨j + 1, _, rfl, by omega, by go_num, HPP.out, HBS.out.drew, HSS.out⟩, by simp [intOf]; omega⟩
        · obtain rfl : j = L := by omega
          go_wp2_with fail
          exact ⟨⟨k + 1, _, rfl, by omega, by go_num, by rw [← fillF_next]; exact HMI.out, HBI.out, HSI.out⟩, by simp [intOf]; omega⟩
    · obtain rfl : k = L := by omega
      go_wp2_with fail
      go_ret
      have hM := HMQ.out
      rw [fillF_end] at hM
      exact ⟨_, rfl, by rw [HPK.out, HSQ.out]; exact ⟨hM, by rw [HSQ.out]; exact Nat.le_refl _⟩, HBQ.out⟩
end Go.Proofs.YtcmnkhblnlmfpaaGreatDoor
namespace Go.Proofs.YtcmnkhblnlmfpaaGreatDoor
open Go.RowKit

/-! ### Sets of points -/
def setC (n : Nat) (l : List Int) (k : Nat) : Prop := (0 ≤ l.getD k 0 ∧ l.getD k 0 ≤ (n : Int) - 1) ∧ ¬ (0 < k ∧ l.getD k 0 ≤ l.getD (k - 1) 0)
def SetTo (n : Nat) (l : List Int) (k : Nat) : Prop := ∀ i, i < k → setC n l i
theorem setTo_step {n k : Nat} {l : List Int} (h : SetTo n l k) (hk : setC n l k) : SetTo n l (k + 1) := fun i hi => by
  rcases Nat.lt_or_ge i k with h' | h'
  · exact h i h'
  · obtain rfl : i = k := by omega
    exact hk
def IsSet (n : Nat) (l : List Int) : Prop := SetTo n l l.length
theorem isSet_no {n k : Nat} {l : List Int} (hk : k < l.length) (h : ¬ setC n l k) : ¬ IsSet n l := fun hs => h (hs k hk)
theorem isSet_pt {n : Nat} {l : List Int} (h : IsSet n l) : AllPt n l := fun k hk => (h k hk).1
theorem isSet_ge {n : Nat} {l : List Int} (h : IsSet n l) (k : Nat) (hk : k < l.length) : (k : Int) ≤ l.getD k 0 := by
  induction k with
  | zero => exact (h 0 hk).1.1
  | succ k ih =>
    have h1 := ih (by omega)
    have h2 := (h (k + 1) hk).2
    simp only [Nat.add_sub_cancel] at h2
    have h3 : ¬ l.getD (k + 1) 0 ≤ l.getD k 0 := fun h => h2 ⟨by omega, h⟩
    omega
theorem isSet_len {n : Nat} {l : List Int} (h : IsSet n l) : l.length ≤ n := by
  by_cases h0 : l.length = 0
  · omega
  · have h1 := isSet_ge h (l.length - 1) (by omega)
    have h2 := (h (l.length - 1) (by omega)).1.2
    omega
open Classical in
noncomputable def setB (n : Nat) (l : List Int) : Bool := decide (IsSet n l)
open Classical in
theorem setB_yes {n : Nat} {l : List Int} (h : IsSet n l) : setB n l = true := decide_eq_true h
open Classical in
theorem setB_no {n : Nat} {l : List Int} (h : ¬ IsSet n l) : setB n l = false := decide_eq_false h
/-- What SubCartan accepts. -/
def SubOk (m : List (List Int)) (l : List Int) : Prop := IsC m ∧ l ≠ [] ∧ IsSet m.length l
open Classical in
noncomputable def subB (m : List (List Int)) (l : List Int) : Bool := decide (SubOk m l)
noncomputable def subM (m : List (List Int)) (l : List Int) : List (List Int) := if subB m l = true then pick m l else []
open Classical in
theorem subB_yes {m : List (List Int)} {l : List Int} (h : SubOk m l) : subB m l = true := decide_eq_true h
open Classical in
theorem subB_no {m : List (List Int)} {l : List Int} (h : ¬ SubOk m l) : subB m l = false := decide_eq_false h
theorem subM_yes {m : List (List Int)} {l : List Int} (h : SubOk m l) : subM m l = pick m l := if_pos (subB_yes h)
theorem subM_no {m : List (List Int)} {l : List Int} (h : ¬ SubOk m l) : subM m l = [] := by unfold subM; rw [subB_no h]; rfl
theorem subM_small (m : List (List Int)) (l : List Int) : szSum (subM m l) ≤ 1048576 := by
  by_cases h : SubOk m l
  · rw [subM_yes h]
    have h1 := isSet_len h.2.2
    have h2 := h.1.2.2.2
    exact fullF_small _ _ (by omega)
  · rw [subM_no h]; decide
/-- The list's cell before. -/
theorem RowB.prev {B : Nat} {w : World} {b off n cap : Nat} {l : List Int} (h : RowB B w (.slice (some ⟨b, off, none⟩) n cap) l) {j : Nat} (hj : j < n) : w.cell? ⟨b, off + j, none⟩ = some (.int .i64 (l.getD j 0)) := by
  obtain ⟨b', off', hla, _, hlc⟩ := h.getD hj
  injection hla with hla
  injection hla with hla1 hla2
  subst hla1
  subst hla2
  exact hlc

/-! ### The program's isPointSet -/
end Go.Proofs.YtcmnkhblnlmfpaaGreatDoor
namespace Go.Proofs.YtcmnkhblnlmfpaaGreatDoor
open Go.RowKit

/-! ### Without the first row and a column -/
def keepC (n col : Nat) : List Nat := (List.range n).filter fun j => decide (j ≠ col)
def wdR (m : List (List Int)) (col i k : Nat) : List Int := (keepC k col).map (entry m i)
def wdM (m : List (List Int)) (n col k : Nat) : List (List Int) := (List.range k).map fun i => wdR m col (i + 1) n
theorem wdR_yes {m : List (List Int)} {col i k : Nat} (h : k ≠ col) : wdR m col i k ++ [entry m i k] = wdR m col i (k + 1) := by
  unfold wdR keepC
  rw [List.range_succ, List.filter_append, List.map_append]
  simp [h]
theorem wdR_no {m : List (List Int)} {col i k : Nat} (h : k = col) : wdR m col i k = wdR m col i (k + 1) := by
  unfold wdR keepC
  rw [List.range_succ, List.filter_append, List.map_append]
  simp [h]
theorem keepC_len (k col : Nat) : (keepC k col).length = if col < k then k - 1 else k := by
  induction k with
  | zero => rfl
  | succ k ih =>
    unfold keepC at ih ⊢
    rw [List.range_succ, List.filter_append, List.length_append, ih]
    by_cases h : k = col
    · subst h; simp
    · by_cases h2 : col < k
      · simp [h, h2, show col < k + 1 by omega]; omega
      · simp [h, h2, show ¬ col < k + 1 by omega]
theorem wdR_len (m : List (List Int)) (col i k : Nat) : (wdR m col i k).length ≤ k := by
  unfold wdR
  rw [List.length_map, keepC_len]
  split <;> omega
theorem wdR_full (m : List (List Int)) (col i n : Nat) (h : col < n + 1) : (wdR m col i (n + 1)).length = n := by
  unfold wdR
  rw [List.length_map, keepC_len, if_pos h]; rfl
theorem wdM_len (m : List (List Int)) (n col k : Nat) : (wdM m n col k).length = k := by simp [wdM]
theorem wdM_step (m : List (List Int)) (n col k : Nat) : wdM m n col k ++ [wdR m col (k + 1) n] = wdM m n col (k + 1) := by
  unfold wdM
  rw [List.range_succ, List.map_append]; rfl
theorem wdM_get (m : List (List Int)) (n col k i : Nat) (h : i < k) : (wdM m n col k).getD i [] = wdR m col (i + 1) n := by simp [wdM, List.getD, h]
theorem wdM_rows (m : List (List Int)) (col n : Nat) (h : col < n + 1) : Rows0 (wdM m (n + 1) col n) n n := fun i hi => by
  rw [wdM_get _ _ _ _ _ hi]; exact wdR_full m col (i + 1) n h
/-- Entries from -3 to 3. -/
def Bd (m : List (List Int)) : Prop := ∀ i j, -3 ≤ entry m i j ∧ entry m i j ≤ 3
theorem wdM_bd {m : List (List Int)} (hb : Bd m) (n col k : Nat) : Bd (wdM m n col k) := fun i j => by
  by_cases hi : i < k
  · unfold entry
    rw [wdM_get _ _ _ _ _ hi]
    by_cases hj : j < (wdR m col (i + 1) n).length
    · have e : (wdR m col (i + 1) n).getD j 0 = (wdR m col (i + 1) n)[j] := by simp [List.getD, hj]
      rw [e]
      have hm := List.getElem_mem hj
      unfold wdR at hm
      obtain ⟨c, _, hc⟩ := List.mem_map.1 hm
      have : (wdR m col (i + 1) n)[j] = entry m (i + 1) c := hc.symm
      rw [this]
      exact hb _ _
    · rw [List.getD_eq_getElem?_getD, List.getElem?_eq_none (by omega)]; decide
  · unfold entry
    have e : (wdM m n col k).getD i [] = [] := by rw [List.getD_eq_getElem?_getD, List.getElem?_eq_none (by rw [wdM_len]; omega)]; rfl
    rw [e]; simp
theorem isC_bd {m : List (List Int)} (h : IsC m) : Bd m := fun i j => by
  by_cases hi : i < m.length
  · by_cases hj : j < m.length
    · rcases h.2.1 i j hi hj with h1 | h1
      · rw [h1.2]; decide
      · have := h1.2.1; omega
    · have h1 := h.1 i hi
      have : entry m i j = 0 := by
        unfold entry
        have h2 : (m.getD i []).length ≤ j := by omega
        rw [List.getD_eq_getElem?_getD (l := m.getD i []), List.getElem?_eq_none h2]; rfl
      rw [this]; decide
  · have : entry m i j = 0 := by unfold entry; simp [List.getD, List.getElem?_eq_none (show m.length ≤ i by omega)]
    rw [this]; decide

/-! ### Determinants -/
def sgn (j : Nat) (x : Int) : Int := if j % 2 = 1 then -x else x
def detF : Nat → List (List Int) → Int
  | 0, _ => 1
  | n + 1, m => ((List.range (n + 1)).map fun j => sgn j (entry m 0 j * detF n (wdM m (n + 1) j n))).sum
def detS (n : Nat) (m : List (List Int)) (k : Nat) : Int := ((List.range k).map fun j => sgn j (entry m 0 j * detF n (wdM m (n + 1) j n))).sum
theorem detS_step (n : Nat) (m : List (List Int)) (k : Nat) : detS n m (k + 1) = detS n m k + sgn k (entry m 0 k * detF n (wdM m (n + 1) k n)) := by
  unfold detS
  rw [List.range_succ, List.map_append, List.sum_append]
  simp
theorem detS_end (n : Nat) (m : List (List Int)) : detS n m (n + 1) = detF (n + 1) m := rfl
def dB : Nat → Int
  | 0 => 1
  | n + 1 => (n + 1 : Nat) * (3 * dB n)
theorem sgn_le {j : Nat} {x b : Int} (h : -b ≤ x ∧ x ≤ b) : -b ≤ sgn j x ∧ sgn j x ≤ b := by
  unfold sgn
  split <;> omega
theorem mul_le3 {x y b : Int} (hx : -3 ≤ x ∧ x ≤ 3) (hy : -b ≤ y ∧ y ≤ b) (hb : 0 ≤ b) : -(3 * b) ≤ x * y ∧ x * y ≤ 3 * b := by
  obtain ⟨h1, h2⟩ := hx
  rcases (show x = -3 ∨ x = -2 ∨ x = -1 ∨ x = 0 ∨ x = 1 ∨ x = 2 ∨ x = 3 by omega) with rfl | rfl | rfl | rfl | rfl | rfl | rfl <;> omega
theorem dB_nonneg (n : Nat) : 0 ≤ dB n := by
  induction n with
  | zero => decide
  | succ n ih => exact Int.mul_nonneg (by omega) (by omega)
theorem detS_bd {n : Nat} {m : List (List Int)} (hb : Bd m) (hd : ∀ j, -(dB n) ≤ detF n (wdM m (n + 1) j n) ∧ detF n (wdM m (n + 1) j n) ≤ dB n) (k : Nat) :
    -((k : Int) * (3 * dB n)) ≤ detS n m k ∧ detS n m k ≤ (k : Int) * (3 * dB n) := by
  induction k with
  | zero => simp [detS]
  | succ k ih =>
    rw [detS_step]
    have h1 := sgn_le (j := k) (mul_le3 (hb 0 k) (hd k) (dB_nonneg n))
    have e : ((k + 1 : Nat) : Int) * (3 * dB n) = (k : Int) * (3 * dB n) + 3 * dB n := by rw [Int.natCast_succ, Int.add_mul, Int.one_mul]
    rw [e]
    omega
theorem detF_bd (n : Nat) : ∀ m, Bd m → -(dB n) ≤ detF n m ∧ detF n m ≤ dB n := by
  induction n with
  | zero => intro m _; show -(1 : Int) ≤ 1 ∧ (1 : Int) ≤ 1; decide
  | succ n ih =>
    intro m hb
    rw [← detS_end]
    exact detS_bd hb (fun j => ih _ (wdM_bd hb _ _ _)) (n + 1)
theorem dB_small (n : Nat) (h : n ≤ 4) : dB n ≤ 1944 := by
  rcases (show n = 0 ∨ n = 1 ∨ n = 2 ∨ n = 3 ∨ n = 4 by omega) with rfl | rfl | rfl | rfl | rfl <;> decide

/-! ### The calls -/
theorem wdM_pred (m : List (List Int)) (N col kk : Nat) (h : 1 ≤ kk) : wdM m N col (kk - 1) ++ [wdR m col kk N] = wdM m N col kk := by
  obtain ⟨k, rfl⟩ : ∃ k, kk = k + 1 := ⟨kk - 1, by omega⟩
  exact wdM_step m N col k
theorem keepS {wq w2 : World} {p q : Addr} {c d : Value} (hp : p.block < wq.heap.size) (hq : q.block < wq.heap.size) (h1 : wq.cell? p = some c) (h2 : wq.cell? q = some d) (h : Below wq.heap.size wq w2) :
    Below wq.heap.size wq w2 ∧ w2.cell? p = some c ∧ w2.cell? q = some d := ⟨h, (h.cell hp).trans h1, (h.cell hq).trans h2⟩
theorem detF_ret {a b : Int} {w w' : World} {C : Nat} (h : a = b) (hb : Below C w w') : Ending.returned (.int .i64 a) = .returned (.int .i64 b) ∧ Below C w w' := ⟨by rw [h], hb⟩

end Go.Proofs.YtcmnkhblnlmfpaaGreatDoor
namespace Go.Proofs.YtcmnkhblnlmfpaaGreatDoor
open Go.RowKit

/-! ### The two loops that fill the result -/
/-- 'append(row, x)' as a step of a region that draws its order: the literal's block lies at g. -/
theorem step_lit {ops : Array Oper} {o : Oper} {a : Act} {K : Act → World → Prop} {Q : Exit → Act → World → Prop} {E : Prop} {s x : Operand} {A : Nat} {v : Value} {l : List Int} {wr : World} (n : Int) (g : Nat)
    (hM : RowI A wr.heap.size wr v l) (hA : A ≤ wr.heap.size) (hg : wr.heap[g]? = some (.cells #[.int .i64 n] 3 (0, 0))) (hlen : l.length + [n].length ≤ 4194304) (hgd : o.guard = none)
    (ho : o.op = .call { callee := .builtin .append, args := #[s, x], argTypes := #[25, 25] }) (hs : a.eval s = v) (hx : a.eval x = .slice (some ⟨g, 0, none⟩) 1 1)
    (h : AfterRow A wr (l ++ [n]) fun v' w' => K (a.put o.dst v') w') : if Region.wanted o (yielded ops a.tmps) = true then Oper.wp Tryz.prog o a wr K Q else E :=
  step_ints (l2 := [n]) (B := g + 1) hM hA (Or.inr ⟨g, 0, 1, rfl, by omega, fun j hj => by
    obtain rfl : j = 0 := by simp at hj; omega
    rw [cell_of_row wr g (0 + 0) _ _ _ hg]; rfl⟩) (by simp) hlen hgd ho hs hx h
end Go.Proofs.YtcmnkhblnlmfpaaGreatDoor
namespace Go.Proofs.YtcmnkhblnlmfpaaGreatDoor

def visit1 (s : List Bool × List Nat) (j : Nat) : List Bool × List Nat := if s.1.getD j false then s else (s.1.set j true, s.2 ++ [j])
def visitL (l : List Nat) (s : List Bool × List Nat) : List Bool × List Nat := l.foldl visit1 s
def bfsStep (G : Nat → List Nat) (k : Nat) (s : List Bool × List Nat) : List Bool × List Nat := match s.2[k]? with | some p => visitL (G p) s | none => s
def bfsN (G : Nat → List Nat) (s : List Bool × List Nat) : Nat → List Bool × List Nat
  | 0 => s
  | k + 1 => bfsStep G k (bfsN G s k)
/-- What every step keeps. -/
def BInv (n C : Nat) (s : List Bool × List Nat) : Prop := s.1.length = n ∧ (∀ k, k < s.2.length → s.2.getD k 0 < n) ∧ s.2.length + s.1.count false = C ∧ 0 < s.2.length
theorem visit1_inv {n C : Nat} {s : List Bool × List Nat} {j : Nat} (h : BInv n C s) (hj : j < n) : BInv n C (visit1 s j) := by
  obtain ⟨h1, h2, h3, h9⟩ := h
  unfold visit1
  by_cases hs : s.1.getD j false = true
  · rw [if_pos hs]; exact ⟨h1, h2, h3, h9⟩
  · rw [if_neg hs]
    have hj' : j < s.1.length := by omega
    have hf : s.1[j] = false := by
      have : s.1.getD j false = s.1[j] := by simp [List.getD, hj']
      rw [this] at hs; simpa using hs
    refine ⟨by simp [h1], fun k hk => ?_, ?_, by simp⟩
    · simp only [List.length_append, List.length_singleton] at hk
      by_cases hk' : k < s.2.length
      · have := h2 k hk'
        simpa [List.getD, List.getElem?_append_left hk'] using this
      · obtain rfl : k = s.2.length := by omega
        simpa [List.getD] using hj
    · have hpos : 0 < s.1.count false := List.count_pos_iff.2 (hf ▸ List.getElem_mem hj')
      simp only [List.length_append, List.length_singleton]
      rw [List.count_set (h := hj')]
      simp [hf]
      omega
theorem visitL_inv {n C : Nat} (l : List Nat) {s : List Bool × List Nat} (h : BInv n C s) (hl : ∀ k, k < l.length → l.getD k 0 < n) : BInv n C (visitL l s) := by
  induction l generalizing s with
  | nil => exact h
  | cons x l ih =>
    refine ih (visit1_inv h (by have := hl 0 (by simp); simpa using this)) fun k hk => ?_
    have := hl (k + 1) (by simp; omega)
    simpa using this
theorem visitL_step (l : List Nat) (s : List Bool × List Nat) (j : Nat) (h : j < l.length) : visitL (l.take (j + 1)) s = visit1 (visitL (l.take j) s) (l.getD j 0) := by
  rw [List.take_succ_eq_append_getElem h]
  unfold visitL
  rw [List.foldl_append]
  simp [List.getD, h]
theorem visitL_all (l : List Nat) (s : List Bool × List Nat) : visitL (l.take l.length) s = visitL l s := by rw [List.take_length]
def GrIn (G : Nat → List Nat) (n : Nat) : Prop := ∀ p k, k < (G p).length → (G p).getD k 0 < n
theorem bfsN_inv {G : Nat → List Nat} {n C : Nat} (hG : GrIn G n) {s : List Bool × List Nat} (h : BInv n C s) (k : Nat) : BInv n C (bfsN G s k) := by
  induction k with
  | zero => exact h
  | succ k ih =>
    unfold bfsN bfsStep
    cases (bfsN G s k).2[k]? with
    | none => exact ih
    | some p => exact visitL_inv _ ih (hG p)
theorem bfsN_step {G : Nat → List Nat} {s : List Bool × List Nat} {k : Nat} (h : k < (bfsN G s k).2.length) : bfsN G s (k + 1) = visitL (G ((bfsN G s k).2.getD k 0)) (bfsN G s k) := by
  show bfsStep G k (bfsN G s k) = _
  unfold bfsStep
  rw [List.getElem?_eq_getElem h]
  simp [List.getD, h]
theorem bfsN_stop {G : Nat → List Nat} {s : List Bool × List Nat} {k : Nat} (h : (bfsN G s k).2.length ≤ k) (t : Nat) : bfsN G s (k + t) = bfsN G s k := by
  induction t with
  | zero => rfl
  | succ t ih =>
    show bfsStep G (k + t) (bfsN G s (k + t)) = _
    rw [ih]
    unfold bfsStep
    rw [List.getElem?_eq_none (by omega)]
theorem bfsN_end {G : Nat → List Nat} {s : List Bool × List Nat} {k N : Nat} (h : (bfsN G s k).2.length ≤ k) (hN : k ≤ N) : bfsN G s k = bfsN G s N := by
  obtain ⟨t, rfl⟩ : ∃ t, N = k + t := ⟨N - k, by omega⟩
  exact (bfsN_stop h t).symm

/-! ### Parts, as the model and as the program find them -/
def start (n i : Nat) (s : List Bool) : List Bool × List Nat := (s.set i true, [i])
def bfsE (G : Nat → List Nat) (s : List Bool × List Nat) : List Bool × List Nat := bfsN G s 6
def seenK (s : List Bool) (k : Nat) : List Nat := (List.range k).filter fun j => s.getD j false
def mPart (G : Nat → List Nat) (n i : Nat) : List Nat := seenK (bfsE G (start n i (List.replicate n false))).1 n
def partsM (G : Nat → List Nat) (n : Nat) : Nat → List (List Nat)
  | 0 => []
  | i + 1 => if (mPart G n i).getD 0 0 = i then partsM G n i ++ [mPart G n i] else partsM G n i
def sortN (n : Nat) (q : List Nat) : List Nat := (List.range n).filter fun k => q.contains k
def partsP (G : Nat → List Nat) (n : Nat) : Nat → List Bool × List (List Nat)
  | 0 => (List.replicate n false, [])
  | i + 1 => if (partsP G n i).1.getD i false then partsP G n i else ((bfsE G (start n i (partsP G n i).1)).1, (partsP G n i).2 ++ [sortN n (bfsE G (start n i (partsP G n i).1)).2])

/-! ### Graphs -/
/-- The neighbours in the graph with the edges 01, 02, 03, 12, 13, 23. -/
def grE (a b c d e f : Bool) (i j : Nat) : Bool := match i, j with
  | 0, 1 => a | 1, 0 => a | 0, 2 => b | 2, 0 => b | 0, 3 => c | 3, 0 => c | 1, 2 => d | 2, 1 => d | 1, 3 => e | 3, 1 => e | 2, 3 => f | 3, 2 => f
  | _, _ => false
def grN (E : Nat → Nat → Bool) (n p : Nat) : List Nat := (List.range n).filter (E p)
def endsN (G : Nat → List Nat) (k : Nat) : Nat := ((List.range k).map fun i => (G i).length).sum
def edgesN (E : Nat → Nat → Bool) (k : Nat) : Nat := ((List.range k).map fun i => ((List.range i).filter (E i)).length).sum
/-- What is wanted of a graph with n points. -/
def GrOk (G : Nat → List Nat) (n : Nat) : Prop :=
  (partsP G n n).2 = partsM G n n ∧ (∀ i, i < n → (mPart G n i).length ≠ 0) ∧ (∀ i, i < n → (partsP G n i).1.getD i false = false → (bfsE G (start n i (partsP G n i).1)).2.Perm (sortN n (bfsE G (start n i (partsP G n i).1)).2)) ∧ (partsM G n n).length ≤ n ∧ ((partsM G n n).map List.length).sum ≤ n
instance (G : Nat → List Nat) (n : Nat) : Decidable (GrOk G n) := by unfold GrOk; infer_instance
set_option maxRecDepth 100000 in
theorem edOk : ∀ a b c d e f : Bool, endsN (grN (grE a b c d e f) 1) 1 / 2 = edgesN (grE a b c d e f) 1 ∧ endsN (grN (grE a b c d e f) 2) 2 / 2 = edgesN (grE a b c d e f) 2 ∧ endsN (grN (grE a b c d e f) 3) 3 / 2 = edgesN (grE a b c d e f) 3 ∧ endsN (grN (grE a b c d e f) 4) 4 / 2 = edgesN (grE a b c d e f) 4 := by decide +kernel
set_option maxRecDepth 100000 in
theorem grOk1 : ∀ a b c d e f : Bool, GrOk (grN (grE a b c d e f) 1) 1 := by decide +kernel
set_option maxRecDepth 100000 in
theorem grOk2 : ∀ a b c d e f : Bool, GrOk (grN (grE a b c d e f) 2) 2 := by decide +kernel
set_option maxRecDepth 100000 in
theorem grOk3 : ∀ a b c d e f : Bool, GrOk (grN (grE a b c d e f) 3) 3 := by decide +kernel
set_option maxRecDepth 100000 in
theorem grOk4 : ∀ a b c d e f : Bool, GrOk (grN (grE a b c d e f) 4) 4 := by decide +kernel
theorem grOk_all (n : Nat) (h1 : 1 ≤ n) (h4 : n ≤ 4) (a b c d e f : Bool) : GrOk (grN (grE a b c d e f) n) n := by
  rcases (show n = 1 ∨ n = 2 ∨ n = 3 ∨ n = 4 by omega) with rfl | rfl | rfl | rfl
  · exact grOk1 a b c d e f
  · exact grOk2 a b c d e f
  · exact grOk3 a b c d e f
  · exact grOk4 a b c d e f
theorem edOk_all (n : Nat) (h1 : 1 ≤ n) (h4 : n ≤ 4) (a b c d e f : Bool) : endsN (grN (grE a b c d e f) n) n / 2 = edgesN (grE a b c d e f) n := by
  obtain ⟨q1, q2, q3, q4⟩ := edOk a b c d e f
  rcases (show n = 1 ∨ n = 2 ∨ n = 3 ∨ n = 4 by omega) with rfl | rfl | rfl | rfl
  · exact q1
  · exact q2
  · exact q3
  · exact q4
theorem seenK_yes {s : List Bool} {k : Nat} (h : s.getD k false = true) : seenK s k ++ [k] = seenK s (k + 1) := by
  unfold seenK
  rw [List.range_succ, List.filter_append]
  simp [← List.getD_eq_getElem?_getD, h]
theorem seenK_no {s : List Bool} {k : Nat} (h : s.getD k false = false) : seenK s k = seenK s (k + 1) := by
  unfold seenK
  rw [List.range_succ, List.filter_append]
  simp [← List.getD_eq_getElem?_getD, h]
theorem sortN_sorted (n : Nat) (q : List Nat) : (sortN n q).Pairwise fun x y => x ≤ y :=
  (List.pairwise_lt_range.filter _).imp fun h => Nat.le_of_lt h
theorem start_inv {n i : Nat} {s : List Bool} (hs : s.length = n) (hi : i < n) : BInv n (1 + (s.set i true).count false) (start n i s) :=
  ⟨by simp [start, hs], fun k hk => by
    obtain rfl : k = 0 := by simp [start] at hk; omega
    simpa [start] using hi, by simp [start], by simp [start]⟩
theorem start_le {n i : Nat} {s : List Bool} (hs : s.length = n) : 1 + (s.set i true).count false ≤ n + 1 := by
  have h1 : (s.set i true).count false ≤ (s.set i true).length := List.count_le_length
  rw [List.length_set] at h1
  omega
end Go.Proofs.YtcmnkhblnlmfpaaGreatDoor
