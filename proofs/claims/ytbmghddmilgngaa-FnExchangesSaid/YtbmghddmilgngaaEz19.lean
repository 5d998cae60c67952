/-
  pickPoints of the program: what the call returns; matrices filled entry by entry.
  JoinCartans of the model: what the call returns.
  SubCartan of the model and of the program: what each call returns.
-/
import Derived.Deep.RegionHeld3
import Derived.Deep.DrawnRows
import Derived.Test.YtbmghddmilgngaaEz15
import Derived.Test.YtbmghddmilgngaaEz18
import Derived.BigQuiet
namespace Go.Proofs.Ytbmghddmilgngaa
open Go.RowKit

/-! ### A matrix filled row by row -/
def rowF (f : Nat → Nat → Int) (n r : Nat) : List Int := (List.range n).map (f r)
def fullF (f : Nat → Nat → Int) (n : Nat) : List (List Int) := (List.range n).map (rowF f n)
def fillF (f : Nat → Nat → Int) (n k j : Nat) : List (List Int) := (List.range n).map fun r => (List.range n).map fun c => if r < k ∨ (r = k ∧ c < j) then f r c else 0
theorem rowF_len (f : Nat → Nat → Int) (n r : Nat) : (rowF f n r).length = n := by simp [rowF]
theorem fullF_len (f : Nat → Nat → Int) (n : Nat) : (fullF f n).length = n := by simp [fullF]
theorem fillF_len (f : Nat → Nat → Int) (n k j : Nat) : (fillF f n k j).length = n := by simp [fillF]
theorem rowF_step (f : Nat → Nat → Int) (n r c : Nat) (h : c < n) : (rowF f n r).take c ++ [f r c] = (rowF f n r).take (c + 1) := by
  rw [List.take_succ_eq_append_getElem (by rw [rowF_len]; exact h)]; simp [rowF]
theorem fullF_step (f : Nat → Nat → Int) (n r : Nat) (h : r < n) : (fullF f n).take r ++ [rowF f n r] = (fullF f n).take (r + 1) := by
  rw [List.take_succ_eq_append_getElem (by rw [fullF_len]; exact h)]; simp [fullF]
theorem rowF_end (f : Nat → Nat → Int) (n r : Nat) : (rowF f n r).take n = rowF f n r := List.take_of_length_le (by rw [rowF_len]; exact Nat.le_refl _)
theorem fullF_end (f : Nat → Nat → Int) (n : Nat) : (fullF f n).take n = fullF f n := List.take_of_length_le (by rw [fullF_len]; exact Nat.le_refl _)
theorem fillF_row (f : Nat → Nat → Int) (n k j r : Nat) (h : r < n) : ((fillF f n k j).getD r []).length = n := by simp [fillF, List.getD, h]
theorem fillF_zero (f : Nat → Nat → Int) (n : Nat) : fillF f n 0 0 = zeros n := by
  apply List.ext_getElem
  · simp [fillF, zeros]
  · intro i h1 h2
    simp only [fillF, zeros, zerosR, List.getElem_map, List.getElem_range, List.getElem_replicate]
    apply List.ext_getElem
    · simp
    · intro c h3 h4; simp
theorem fillF_next (f : Nat → Nat → Int) (n k : Nat) : fillF f n k n = fillF f n (k + 1) 0 := by
  unfold fillF
  apply List.map_congr_left
  intro r _
  apply List.map_congr_left
  intro c hc
  have hc : c < n := by simpa using hc
  by_cases h : r ≤ k
  · rw [if_pos (by omega), if_pos (by omega)]
  · rw [if_neg (by omega), if_neg (by omega)]
theorem fillF_end (f : Nat → Nat → Int) (n : Nat) : fillF f n n 0 = fullF f n := by
  unfold fillF fullF rowF
  apply List.map_congr_left
  intro r hr
  have hr : r < n := by simpa using hr
  apply List.map_congr_left
  intro c _
  rw [if_pos (by omega)]
theorem fillF_step (f : Nat → Nat → Int) (n k j : Nat) (hk : k < n) (_hj : j < n) : set2 (fillF f n k j) k j (f k j) = fillF f n k (j + 1) := by
  apply List.ext_getElem
  · simp [fillF, set2]
  · intro i h1 h2
    have hi : i < n := by simpa [fillF] using h2
    by_cases hik : i = k
    · subst hik
      rw [set2_at]
      have hg : (fillF f n i j).getD i [] = (List.range n).map fun c => if i < i ∨ (i = i ∧ c < j) then f i c else 0 := by simp [fillF, List.getD, hi]
      rw [hg]
      simp only [fillF, List.getElem_map, List.getElem_range]
      apply List.ext_getElem
      · simp
      · intro c h3 h4
        rw [List.getElem_set]
        simp only [List.getElem_map, List.getElem_range]
        by_cases hc : j = c
        · subst hc
          simp
        · rw [if_neg hc]
          by_cases hlt : c < j
          · simp [hlt, show c < j + 1 by omega]
          · simp [hlt, show ¬ c < j + 1 by omega]
    · rw [set2_ne _ _ _ _ _ _ (by rw [fillF_len]; exact hi) hik]
      simp only [fillF, List.getElem_map, List.getElem_range]
      apply List.map_congr_left
      intro c _
      by_cases hc : i < k ∨ (i = k ∧ c < j)
      · rw [if_pos hc, if_pos (by omega)]
      · rw [if_neg hc, if_neg (by omega)]
theorem fullF_small (f : Nat → Nat → Int) (n : Nat) (h : n ≤ 1000) : szSum (fullF f n) ≤ 1048576 := by
  have : (fullF f n).map List.length = List.replicate n n := by
    apply List.ext_getElem
    · simp [fullF]
    · intro i h1 h2; simp [fullF, rowF]
  unfold szSum
  rw [fullF_len, this, List.sum_replicate_nat]
  have : n * n ≤ 1000 * 1000 := Nat.mul_le_mul h h
  omega

/-! ### Points of a matrix -/
def ptsF (m : List (List Int)) (l : List Int) (r c : Nat) : Int := entry m (l.getD r 0).toNat (l.getD c 0).toNat
def pick (m : List (List Int)) (l : List Int) : List (List Int) := fullF (ptsF m l) l.length
def AllPt (n : Nat) (l : List Int) : Prop := ∀ k, k < l.length → 0 ≤ l.getD k 0 ∧ l.getD k 0 ≤ (n : Int) - 1
end Go.Proofs.Ytbmghddmilgngaa
namespace Go.Proofs.Ytbmghddmilgngaa
open Go.RowKit

def JoinOk (a b : List (List Int)) : Prop := IsC a ∧ IsC b ∧ a.length + b.length ≤ 4
open Classical in
noncomputable def joinB (a b : List (List Int)) : Bool := decide (JoinOk a b)
open Classical in
theorem joinB_yes {a b : List (List Int)} (h : JoinOk a b) : joinB a b = true := decide_eq_true h
open Classical in
theorem joinB_no {a b : List (List Int)} (h : ¬ JoinOk a b) : joinB a b = false := decide_eq_false h
def joinL (a b : List (List Int)) : List (List Int) := (a.map fun r => r ++ List.replicate b.length 0) ++ b.map fun r => List.replicate a.length 0 ++ r
noncomputable def joinM (a b : List (List Int)) : List (List Int) := if joinB a b = true then joinL a b else []
theorem joinM_yes {a b : List (List Int)} (h : JoinOk a b) : joinM a b = joinL a b := if_pos (joinB_yes h)
theorem joinM_no {a b : List (List Int)} (h : ¬ JoinOk a b) : joinM a b = [] := by unfold joinM; rw [joinB_no h]; rfl
theorem joinL_len (a b : List (List Int)) : (joinL a b).length = a.length + b.length := by simp [joinL]
theorem joinL_top (a b : List (List Int)) (k : Nat) (h : k < a.length) : (joinL a b).take k ++ [a.getD k [] ++ List.replicate b.length 0] = (joinL a b).take (k + 1) := by
  rw [getD_row a k h]
  rw [List.take_succ_eq_append_getElem (by rw [joinL_len]; omega)]
  congr 2
  unfold joinL
  rw [List.getElem_append_left (by simpa using h)]
  simp
theorem joinL_low (a b : List (List Int)) (k : Nat) (h : k < b.length) : (joinL a b).take (a.length + k) ++ [List.replicate a.length 0 ++ b.getD k []] = (joinL a b).take (a.length + (k + 1)) := by
  rw [getD_row b k h]
  rw [← Nat.add_assoc, List.take_succ_eq_append_getElem (by rw [joinL_len]; omega)]
  congr 2
  unfold joinL
  rw [List.getElem_append_right (by simp)]
  simp
theorem joinL_end (a b : List (List Int)) : (joinL a b).take (a.length + b.length) = joinL a b := List.take_of_length_le (by rw [joinL_len]; exact Nat.le_refl _)
theorem isC_row {m : List (List Int)} (h : IsC m) {k : Nat} (hk : k < m.length) : (m.getD k []).length = m.length := h.1 k hk
theorem ne_nil_of_len {l : List Int} (h : 0 < l.length) : l ≠ [] := fun e => by rw [e] at h; simp at h
theorem makesM2_nil {w w' : World} {x : Value} {m : List (List Int)} {c d : Bool} (hm : m = []) (hc : d = c) (h : MatI w.heap.size w'.heap.size w' x []) (hb : Below w.heap.size w w') : MakesM2 w m (.bool c) (.returned (.tuple #[x, .bool d])) w' :=
  ⟨x, by rw [hc], by rw [hm]; exact ⟨h, Nat.le_refl _⟩, hb⟩
/-- A row of a matrix: its header, read as a list. -/
theorem MatB.rowAt {B : Nat} {w : World} {a : Option Addr} {n cap : Nat} {m : List (List Int)} (h : MatB B w (.slice a n cap) m) {j : Nat} (hj : j < n) (hl : j < m.length) :
    ∃ b off ra rcap, a = some ⟨b, off, none⟩ ∧ b < B ∧ w.cell? ⟨b, off + j, none⟩ = some (.slice ra (m.getD j []).length rcap) ∧ RowB B w (.slice ra (m.getD j []).length rcap) (m.getD j []) := by
  rw [getD_row m j hl]
  obtain ⟨b, off, _, h1, h2, ra, rcap, h3, h4⟩ := h.get hj
  exact ⟨b, off, ra, rcap, h1, h2, h3, h4⟩

set_option maxHeartbeats 4000000 in
set_option maxRecDepth 100000 in
theorem jos_yes (B B' : Nat) (v v' : Value) (m m' : List (List Int)) (w : World) (h : MatB B w v m) (h' : MatB B' w v' m') (hB : B ≤ w.heap.size) (hB' : B' ≤ w.heap.size) (hf : RowsFit m) (hf' : RowsFit m') (hj : JoinOk m m') :
    Calls Try.prog 100 #[v, v'] w (MakesM2 w (joinL m m') (.bool true)) := by
  obtain ⟨a, cap, rfl⟩ := h.slice
  obtain ⟨a', cap', rfl⟩ := h'.slice
  have HR := Lib.hid h; clear h
  have HR' := Lib.hid h'; clear h'
  have HF := Lib.hid hf; clear hf
  have HF' := Lib.hid hf'; clear hf'
  obtain ⟨hc1, hc2, h4⟩ := hj
  have h1 := hc1.2.2.1
  have h1' := hc2.2.2.1
  have HC := Lib.hid (isB_yes hc1)
  have HC' := Lib.hid (isB_yes hc2)
  have HROW := Lib.hid (fun (k : Nat) (hk : k < m.length) => isC_row hc1 hk)
  have HROW' := Lib.hid (fun (k : Nat) (hk : k < m'.length) => isC_row hc2 hk)
  have HTOP := Lib.hid (joinL_top m m')
  have HLOW := Lib.hid (joinL_low m m')
  have HEND := Lib.hid (joinL_end m m')
  have HLEN := Lib.hid (joinL_len m m')
  clear hc1 hc2
  generalize hn : m.length = n at *
  generalize hn' : m'.length = n' at *
  generalize hJ : joinL m m' = J at *
  have HN := Lib.hid hn; clear hn
  have HN' := Lib.hid hn'; clear hn'
  clear hJ
  go_enter Try.func100, Try.ntmps100
  go_wp2_with fail
  refine (isc_w B _ m true HC.out _ HR.out HF.out).mono ?_
  rintro e w1 ⟨rfl, hb1⟩
  have HB1 := Lib.hid hb1
  have hs1 := hb1.size
  clear hb1
  go_wp2_with fail
  refine (isc_w B' _ m' true HC'.out _ (HR'.out.below HB1.out hB') HF'.out).mono ?_
  rintro e w2 ⟨rfl, hb2⟩
  have HB2 := Lib.hid (HB1.out.trans (hb2.mono hs1))
  clear hb2
  have hd : decide (4 < (n : Int) + n') = false := decide_eq_false (by omega)
  go_wp2_with fail
  clear hd
  have hs2 := HB2.out.size
  go_loopw [6, 7] (fun o i wr => ∃ (k : Nat) (wq : World), wq = wr ∧ k ≤ n ∧ i = .int .i64 k ∧ MatI w.heap.size wq.heap.size wq o (J.take k) ∧ Below w.heap.size w wq) (fun _ i _ => n - (RowKit.intOf i).toNat)
  case atStart => exact ⟨0, _, rfl, Nat.zero_le _, rfl, (mat_empty w2).mono hs2 (Nat.le_refl _), HB2.out.alloc hs2 _⟩
  case round =>
    obtain ⟨k, wq, rfl, hk, rfl, hM, hb⟩ := hrel
    have HM := Lib.hid hM; clear hM
    have HB := Lib.hid hb
    have hsq := hb.size
    clear hb
    by_cases hlt : k < n
    · have hkl : k < m.length := by rw [HN.out]; exact hlt
      obtain ⟨b, off, ra, rcap, rfl, hbB, hcell, hrow⟩ := (HR.out.below HB.out hB).rowAt hlt hkl
      have hrl : (m.getD k []).length = n := HROW.out k hlt
      rw [hrl] at hcell hrow
      have HTK := Lib.hid (HTOP.out k hlt)
      have hlk : (J.take k).length ≤ 1048576 := by rw [List.length_take]; have := HLEN.out; omega
      have HLK := Lib.hid hlk; clear hlk
      generalize m.getD k [] = r at *
      have hrow1 : RowB B (wq.alloc (.cells #[] 3)) (.slice ra n rcap) r := hrow.below ((Below.refl w.heap.size wq).alloc hsq _) hB
      have HRL := Lib.hid hrl; clear hrl
      have HROW1 := Lib.hid hrow1; clear hrow1 hrow
      have hne : r ≠ [] := ne_nil_of_len (by rw [HRL.out]; omega)
      have HNE := Lib.hid hne; clear hne
      have hq1 : wq.heap.size ≤ (wq.alloc (.cells #[] 3)).heap.size := by simp
      have hcell' : (wq.alloc (.cells #[] 3)).cell? ⟨b, off + k, none⟩ = some (.slice ra n rcap) := by
        rw [World.cell?_alloc_past _ _ _ (by show b < _; omega)]; exact hcell
      have hlen2 : ([] : List Int).length + r.length ≤ 4194304 := by rw [HRL.out]; simp; omega
      have HLEN2 := Lib.hid hlen2; clear hlen2
      go_wp2_with (at_builtin; go_must (refine append_ints (row_empty wq) hq1 HROW1.out HNE.out HLEN2.out rfl rfl rfl rfl ?_))
      intro v3 w3 hr3 hb3 hz3
      have hb3' := hb3 wq wq.heap.size (Nat.le_refl _) ((Below.refl _ _).alloc (Nat.le_refl _) _)
      have HB3 := Lib.hid hb3'
      have hs3 := hb3'.size
      have HR3 := Lib.hid hr3
      clear hb3 hz3 hr3 hb3' hcell hcell'
      have hlen3 : r.length + n' ≤ 4194304 := by rw [HRL.out]; omega
      have HLEN3 := Lib.hid hlen3; clear hlen3
      go_wp2_with (at_builtin; go_must (refine append_zeros HR3.out hs3 HNE.out n' (by omega) HLEN3.out rfl rfl rfl rfl ?_))
      intro v4 w4 hr4 hb4 hz4
      have hb4' := hb4 wq wq.heap.size (Nat.le_refl _) HB3.out
      have HB4 := Lib.hid hb4'
      have hs4 := hb4'.size
      obtain ⟨xa, xn, xc, rfl⟩ := hr4.slice3
      have HR4 := Lib.hid hr4
      have HM4 := Lib.hid ((HM.out.same (SameIn.of_below hb4' (Nat.le_refl _))))
      clear hb4 hz4 hr4 hb4'
      go_wp2_with (at_builtin; go_must (refine append_row HM4.out HR4.out hsq hs4 rfl rfl rfl rfl HLK.out ?_))
      intro v5 w5 hm5 hb5 hz5
      rw [HTK.out] at hm5
      have HM5 := Lib.hid hm5
      have HB5 := Lib.hid (hb5 w w.heap.size (Nat.le_refl _) (HB.out.trans (HB4.out.mono hsq)))
      clear hb5 hz5 hm5
      go_wp2_with fail
      exact ⟨⟨k + 1, _, rfl, by omega, by go_num, HM5.out, HB5.out⟩, by simp [RowKit.intOf]; omega⟩
    · obtain rfl : k = n := by omega
      go_wp2_with fail
      go_loopw [6, 8] (fun o i wr => ∃ (j : Nat) (wq : World), wq = wr ∧ j ≤ n' ∧ i = .int .i64 j ∧ MatI w.heap.size wq.heap.size wq o (J.take (k + j)) ∧ Below w.heap.size w wq) (fun _ i _ => n' - (RowKit.intOf i).toNat)
      case atStart => exact ⟨0, _, rfl, Nat.zero_le _, rfl, HM.out, HB.out⟩
      case round =>
        clear HM HB hsq
        clear wq
        obtain ⟨j, wq, rfl, hj, rfl, hM, hb⟩ := hrel
        have HM := Lib.hid hM; clear hM
        have HB := Lib.hid hb
        have hsq := hb.size
        clear hb
        by_cases hjt : j < n'
        · have hkl : j < m'.length := by rw [HN'.out]; exact hjt
          obtain ⟨b, off, ra, rcap, rfl, hbB, hcell, hrow⟩ := (HR'.out.below HB.out hB').rowAt hjt hkl
          have hrl : (m'.getD j []).length = n' := HROW'.out j hjt
          rw [hrl] at hcell hrow
          have HTK := Lib.hid (HLOW.out j hjt)
          have hlk : (J.take (k + j)).length ≤ 1048576 := by rw [List.length_take]; have := HLEN.out; omega
          have HLK := Lib.hid hlk; clear hlk
          generalize m'.getD j [] = r at *
          have HRL := Lib.hid hrl; clear hrl
          have HROW1 := Lib.hid hrow; clear hrow
          have hne : r ≠ [] := ne_nil_of_len (by rw [HRL.out]; omega)
          have HNE := Lib.hid hne; clear hne
          have hmk := makeInts k (by omega)
          have hcell' : (wq.alloc (.cells (intsV (zerosR k)).toArray 3)).cell? ⟨b, off + j, none⟩ = some (.slice ra n' rcap) := by
            rw [World.cell?_alloc_past _ _ _ (by show b < _; omega)]; exact hcell
          have hr0 : RowI wq.heap.size (wq.alloc (.cells (intsV (zerosR k)).toArray 3)).drew.heap.size (wq.alloc (.cells (intsV (zerosR k)).toArray 3)).drew (.slice (some ⟨wq.heap.size, 0, none⟩) k k) (zerosR k) := row_made wq k (by omega)
          have hb0 : Below wq.heap.size wq (wq.alloc (.cells (intsV (zerosR k)).toArray 3)).drew := ((Below.refl _ _).alloc (Nat.le_refl _) _).drew
          have hs0 : RowB B' (wq.alloc (.cells (intsV (zerosR k)).toArray 3)).drew (.slice ra n' rcap) r := HROW1.out.below hb0 (by omega)
          have hlen0 : (zerosR k).length + r.length ≤ 4194304 := by rw [HRL.out, zerosR_len]; omega
          have hq0 : wq.heap.size ≤ (wq.alloc (.cells (intsV (zerosR k)).toArray 3)).drew.heap.size := hb0.size
          have HR0 := Lib.hid hr0
          have HB0 := Lib.hid hb0
          have HS0 := Lib.hid hs0
          have HLEN0 := Lib.hid hlen0
          clear hr0 hb0 hs0 hlen0
          go_wp2_with fail
          go_region_law (first
            | (refine step_ints HR0.out hq0 HS0.out HNE.out HLEN0.out rfl rfl rfl rfl ?_; intro v3 w3 hr3 hb3 hz3; obtain ⟨xa, xn, xc, rfl⟩ := hr3.slice3; have HR3 := Lib.hid hr3; clear hr3)
            | (refine step_row (A := w.heap.size) (B := wq.heap.size) (C := w3.heap.size) (mat_behind HM.out HB0.out hb3 _) (HR3.out.alloc _) hsq (by have := (hb3 wq wq.heap.size (Nat.le_refl _) HB0.out).size; simp; omega) (by simp) (MapKept.heap_alloc w3 _).1 HLK.out rfl rfl rfl rfl ?_; intro v5 w5 hm5 hb5 hz5))
          all_goals
            have hb6 := hb3 wq wq.heap.size (Nat.le_refl _) HB0.out
            have HB6 := Lib.hid (hb5 w w.heap.size (Nat.le_refl _) ((HB.out.trans (hb6.mono hsq)).alloc (Nat.le_trans hsq hb6.size) _))
            have hm6 : MatI w.heap.size w5.heap.size w5 v5 (J.take (k + (j + 1))) := by rw [← HTK.out]; exact hm5
            have HM6 := Lib.hid hm6
            clear hb3 hz3 hb5 hz5 hm5 hb6 hm6
            go_wp2_with fail
            exact ⟨⟨j + 1, _, rfl, by omega, by go_num, HM6.out, HB6.out⟩, by simp [RowKit.intOf]; omega⟩
        · obtain rfl : j = n' := by omega
          have hM := HM.out
          rw [HEND.out] at hM
          have HM2 := Lib.hid hM
          clear hM
          go_wp2_with fail
          go_ret2
          exact ⟨_, rfl, ⟨HM2.out, Nat.le_refl _⟩, HB.out⟩

set_option maxHeartbeats 2000000 in
set_option maxRecDepth 100000 in
theorem jos_no (B B' : Nat) (v v' : Value) (m m' : List (List Int)) (w : World) (h : MatB B w v m) (h' : MatB B' w v' m') (_hB : B ≤ w.heap.size) (hB' : B' ≤ w.heap.size) (hf : RowsFit m) (hf' : RowsFit m') (hj : ¬ JoinOk m m') :
    Calls Try.prog 100 #[v, v'] w (MakesM2 w [] (.bool false)) := by
  obtain ⟨a, cap, rfl⟩ := h.slice
  obtain ⟨a', cap', rfl⟩ := h'.slice
  have hl := hf.1
  have hl' := hf'.1
  have HR := Lib.hid h; clear h
  have HR' := Lib.hid h'; clear h'
  have HF := Lib.hid hf; clear hf
  have HF' := Lib.hid hf'; clear hf'
  unfold maxLen at hl hl'
  by_cases hc : IsC m
  · have HC := Lib.hid (isB_yes hc)
    by_cases hc' : IsC m'
    · have HC' := Lib.hid (isB_yes hc')
      have h4 : ¬ m.length + m'.length ≤ 4 := fun h => hj ⟨hc, hc', h⟩
      have h5 := hc.2.2.2
      have h6 := hc'.2.2.2
      clear hj hc hc'
      generalize m.length = n at *
      generalize m'.length = n' at *
      have hd : decide (4 < (n : Int) + n') = true := decide_eq_true (by omega)
      go_enter Try.func100, Try.ntmps100
      go_wp2_with fail
      refine (isc_w B _ m true HC.out _ HR.out HF.out).mono ?_
      rintro e w1 ⟨rfl, hb1⟩
      have HB1 := Lib.hid hb1
      clear hb1
      go_wp2_with fail
      refine (isc_w B' _ m' true HC'.out _ (HR'.out.below HB1.out hB') HF'.out).mono ?_
      rintro e w2 ⟨rfl, hb2⟩
      have HB2 := Lib.hid (HB1.out.trans (hb2.mono HB1.out.size))
      clear hb2
      go_wp2_with fail
      go_ret2
      exact ⟨_, rfl, ⟨(mat_empty w2).mono HB2.out.size (Nat.le_refl _), Nat.le_refl _⟩, HB2.out.alloc HB2.out.size _⟩
    · have HC' := Lib.hid (isB_no hc')
      clear hj hc hc'
      generalize m.length = n at *
      generalize m'.length = n' at *
      go_enter Try.func100, Try.ntmps100
      go_wp2_with fail
      refine (isc_w B _ m true HC.out _ HR.out HF.out).mono ?_
      rintro e w1 ⟨rfl, hb1⟩
      have HB1 := Lib.hid hb1
      clear hb1
      go_wp2_with fail
      refine (isc_w B' _ m' false HC'.out _ (HR'.out.below HB1.out hB') HF'.out).mono ?_
      rintro e w2 ⟨rfl, hb2⟩
      have HB2 := Lib.hid (HB1.out.trans (hb2.mono HB1.out.size))
      clear hb2
      go_wp2_with fail
      go_ret2
      exact ⟨_, rfl, ⟨(mat_empty w2).mono HB2.out.size (Nat.le_refl _), Nat.le_refl _⟩, HB2.out.alloc HB2.out.size _⟩
  · have HC := Lib.hid (isB_no hc)
    clear hj hc
    generalize m.length = n at *
    generalize m'.length = n' at *
    go_enter Try.func100, Try.ntmps100
    go_wp2_with fail
    refine (isc_w B _ m false HC.out _ HR.out HF.out).mono ?_
    rintro e w2 ⟨rfl, hb2⟩
    have HB2 := Lib.hid hb2
    clear hb2
    go_wp2_with fail
    go_ret2
    exact ⟨_, rfl, ⟨(mat_empty w2).mono HB2.out.size (Nat.le_refl _), Nat.le_refl _⟩, HB2.out.alloc HB2.out.size _⟩

theorem jos_any (B B' : Nat) (v v' : Value) (m m' : List (List Int)) (w : World) (h : MatB B w v m) (h' : MatB B' w v' m') (hB : B ≤ w.heap.size) (hB' : B' ≤ w.heap.size) (hf : RowsFit m) (hf' : RowsFit m') :
    Calls Try.prog 100 #[v, v'] w (MakesM2 w (joinM m m') (.bool (joinB m m'))) := by
  by_cases hj : JoinOk m m'
  · rw [joinM_yes hj, joinB_yes hj]
    exact jos_yes B B' v v' m m' w h h' hB hB' hf hf' hj
  · rw [joinM_no hj, joinB_no hj]
    exact jos_no B B' v v' m m' w h h' hB hB' hf hf' hj
end Go.Proofs.Ytbmghddmilgngaa
namespace Go.Proofs.Ytbmghddmilgngaa
open Go.RowKit

/-! ### Sets of points -/
def setC (n : Nat) (l : List Int) (k : Nat) : Prop := (0 ≤ l.getD k 0 ∧ l.getD k 0 ≤ (n : Int) - 1) ∧ ¬ (0 < k ∧ l.getD k 0 ≤ l.getD (k - 1) 0)
def SetTo (n : Nat) (l : List Int) (k : Nat) : Prop := ∀ i, i < k → setC n l i
theorem setTo_step {n k : Nat} {l : List Int} (h : SetTo n l k) (hk : setC n l k) : SetTo n l (k + 1) := fun i hi => by
  rcases Nat.lt_or_ge i k with h' | h'
  · exact h i h'
  · obtain rfl : i = k := by omega
    exact hk
def IsSet (n : Nat) (l : List Int) : Prop := SetTo n l l.length
theorem isSet_no {n k : Nat} {l : List Int} (hk : k < l.length) (h : ¬ setC n l k) : ¬ IsSet n l := fun hs => h (hs k hk)
theorem isSet_pt {n : Nat} {l : List Int} (h : IsSet n l) : AllPt n l := fun k hk => (h k hk).1
theorem isSet_ge {n : Nat} {l : List Int} (h : IsSet n l) (k : Nat) (hk : k < l.length) : (k : Int) ≤ l.getD k 0 := by
  induction k with
  | zero => exact (h 0 hk).1.1
  | succ k ih =>
    have h1 := ih (by omega)
    have h2 := (h (k + 1) hk).2
    simp only [Nat.add_sub_cancel] at h2
    have h3 : ¬ l.getD (k + 1) 0 ≤ l.getD k 0 := fun h => h2 ⟨by omega, h⟩
    omega
theorem isSet_len {n : Nat} {l : List Int} (h : IsSet n l) : l.length ≤ n := by
  by_cases h0 : l.length = 0
  · omega
  · have h1 := isSet_ge h (l.length - 1) (by omega)
    have h2 := (h (l.length - 1) (by omega)).1.2
    omega
open Classical in
noncomputable def setB (n : Nat) (l : List Int) : Bool := decide (IsSet n l)
open Classical in
theorem setB_yes {n : Nat} {l : List Int} (h : IsSet n l) : setB n l = true := decide_eq_true h
open Classical in
theorem setB_no {n : Nat} {l : List Int} (h : ¬ IsSet n l) : setB n l = false := decide_eq_false h
/-- What SubCartan accepts. -/
def SubOk (m : List (List Int)) (l : List Int) : Prop := IsC m ∧ l ≠ [] ∧ IsSet m.length l
open Classical in
noncomputable def subB (m : List (List Int)) (l : List Int) : Bool := decide (SubOk m l)
noncomputable def subM (m : List (List Int)) (l : List Int) : List (List Int) := if subB m l = true then pick m l else []
open Classical in
theorem subB_yes {m : List (List Int)} {l : List Int} (h : SubOk m l) : subB m l = true := decide_eq_true h
open Classical in
theorem subB_no {m : List (List Int)} {l : List Int} (h : ¬ SubOk m l) : subB m l = false := decide_eq_false h
theorem subM_yes {m : List (List Int)} {l : List Int} (h : SubOk m l) : subM m l = pick m l := if_pos (subB_yes h)
theorem subM_no {m : List (List Int)} {l : List Int} (h : ¬ SubOk m l) : subM m l = [] := by unfold subM; rw [subB_no h]; rfl
theorem subM_small (m : List (List Int)) (l : List Int) : szSum (subM m l) ≤ 1048576 := by
  by_cases h : SubOk m l
  · rw [subM_yes h]
    have h1 := isSet_len h.2.2
    have h2 := h.1.2.2.2
    exact fullF_small _ _ (by omega)
  · rw [subM_no h]; decide
/-- The list's cell before. -/
theorem RowB.prev {B : Nat} {w : World} {b off n cap : Nat} {l : List Int} (h : RowB B w (.slice (some ⟨b, off, none⟩) n cap) l) {j : Nat} (hj : j < n) : w.cell? ⟨b, off + j, none⟩ = some (.int .i64 (l.getD j 0)) := by
  obtain ⟨b', off', hla, _, hlc⟩ := h.getD hj
  injection hla with hla
  injection hla with hla1 hla2
  subst hla1
  subst hla2
  exact hlc

/-! ### The program's isPointSet -/
end Go.Proofs.Ytbmghddmilgngaa
