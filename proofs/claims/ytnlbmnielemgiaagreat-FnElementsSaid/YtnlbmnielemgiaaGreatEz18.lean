/-
  BondOf of the model and of the program: what each call returns.
  NeighboursOf of the model and of the program: what each call returns.
  pickPoints of the program: what the call returns; matrices filled entry by entry.
-/
import Derived.Test.YtnlbmnielemgiaaGreatEz15
import Derived.Test.YtnlbmnielemgiaaGreatEz11
import Derived.Test.YtnlbmnielemgiaaGreatEz17
import Derived.Test.YtnlbmnielemgiaaGreatEz14
import Derived.Deep.RegionHeld3
import Derived.Deep.DrawnRows
namespace Go.Proofs.YtnlbmnielemgiaaGreat
open Go.RowKit

theorem wrap_prod {x y : Int} (hx : -3 ≤ x ∧ x ≤ 0) (hy : -3 ≤ y ∧ y ≤ 0) : wrap64 (x * y) = x * y := by
  have h : 0 ≤ x * y ∧ x * y ≤ 9 := by
    have hx' : x = 0 ∨ x = -1 ∨ x = -2 ∨ x = -3 := four hx
    rcases hx' with rfl | rfl | rfl | rfl <;> omega
  exact IntWalk.wrap64_in _ ⟨by omega, by omega⟩
def ptB (i : Int) (n : Nat) : Bool := decide (0 ≤ i ∧ i ≤ (n : Int) - 1)
theorem ptB_yes {i : Int} {n : Nat} (h : 0 ≤ i ∧ i ≤ (n : Int) - 1) : ptB i n = true := decide_eq_true h
theorem ptB_no {i : Int} {n : Nat} (h : ¬ (0 ≤ i ∧ i ≤ (n : Int) - 1)) : ptB i n = false := decide_eq_false h
set_option maxHeartbeats 400000 in
theorem pt_any (a : Option Addr) (n cap : Nat) (i : Int) (w : World) (_hl : n ≤ 2 ^ 63 - 1) :
    Calls Tryz.prog 85 #[.slice a n cap, .int .i64 i] w fun e w' => e = .returned (.bool (ptB i n)) ∧ w = w' := by
  by_cases h : 0 ≤ i
  · have h1 : decide (0 ≤ i) = true := decide_eq_true h
    by_cases h2 : i ≤ (n : Int) - 1
    · have HV := Lib.hid (ptB_yes ⟨h, h2⟩)
      have h3 : decide (i < (n : Int)) = true := decide_eq_true (by omega)
      go_enter Tryz.func85, Tryz.ntmps85
      go_wp2_with fail
      go_ret
      exact ⟨ret_boolean HV.out.symm, rfl⟩
    · have HV := Lib.hid (ptB_no (i := i) (n := n) (fun x => h2 x.2))
      have h3 : decide (i < (n : Int)) = false := decide_eq_false (by omega)
      go_enter Tryz.func85, Tryz.ntmps85
      go_wp2_with fail
      go_ret
      exact ⟨ret_boolean HV.out.symm, rfl⟩
  · have HV := Lib.hid (ptB_no (i := i) (n := n) (fun x => h x.1))
    have h1 : decide (0 ≤ i) = false := decide_eq_false h
    go_enter Tryz.func85, Tryz.ntmps85
    go_wp2_with fail
    go_ret
    exact ⟨ret_boolean HV.out.symm, rfl⟩
theorem pt_c (a : Option Addr) (n cap : Nat) (i : Int) (c : Bool) (hc : ptB i n = c) (w : World) (hl : n ≤ 2 ^ 63 - 1) :
    Calls Tryz.prog 85 #[.slice a n cap, .int .i64 i] w fun e w' => e = .returned (.bool c) ∧ w = w' :=
  (pt_any a n cap i w hl).mono fun e w' ⟨he, hw⟩ => ⟨by rw [he]; exact ret_boolean hc, hw⟩
theorem icm_0 (B : Nat) (v : Value) (m : List (List Int)) (c : Bool) (hc : isB m = c) (w : World) (h : MatB B w v m) (hf : RowsFit m) :
    Calls Tryz.prog 66 #[v] w fun e w' => e = .returned (.bool c) ∧ ∃ m, w' = w.drewN m :=
  (icm_any B v m w h hf).mono fun e w' ⟨he, hw⟩ => ⟨by rw [he]; exact ret_boolean hc, hw⟩

end Go.Proofs.YtnlbmnielemgiaaGreat
namespace Go.Proofs.YtnlbmnielemgiaaGreat
open Go.RowKit

def nbF (m : List (List Int)) (i j : Nat) : Bool := decide (j ≠ i ∧ entry m i j ≠ 0)
def nbK (m : List (List Int)) (i k : Nat) : List Int := ((List.range k).filter (nbF m i)).map fun (j : Nat) => (j : Int)
theorem nbK_yes {m : List (List Int)} {i k : Nat} (h1 : k ≠ i) (h2 : entry m i k ≠ 0) : nbK m i k ++ [(k : Int)] = nbK m i (k + 1) := by
  have h : nbF m i k = true := decide_eq_true ⟨h1, h2⟩
  unfold nbK
  rw [List.range_succ, List.filter_append, List.map_append]
  simp [h]
theorem nbK_no {m : List (List Int)} {i k : Nat} (h' : ¬ (k ≠ i ∧ entry m i k ≠ 0)) : nbK m i k = nbK m i (k + 1) := by
  have h : nbF m i k = false := decide_eq_false h'
  unfold nbK
  rw [List.range_succ, List.filter_append, List.map_append]
  simp [h]
theorem nbK_len (m : List (List Int)) (i k : Nat) : (nbK m i k).length ≤ k := by
  unfold nbK
  rw [List.length_map]
  exact Nat.le_trans (List.length_filter_le _ _) (by simp)
/-- What NeighboursOf returns. -/
def NbOk (m : List (List Int)) (i : Int) : Prop := IsC m ∧ (0 ≤ i ∧ i ≤ (m.length : Int) - 1)
open Classical in
noncomputable def nbs (m : List (List Int)) (i : Int) : List Int := if NbOk m i then nbK m i.toNat m.length else []
theorem nbs_yes {m : List (List Int)} {i : Int} (h : NbOk m i) : nbs m i = nbK m i.toNat m.length := if_pos h
theorem nbs_no {m : List (List Int)} {i : Int} (h : ¬ NbOk m i) : nbs m i = [] := if_neg h
theorem nbs_len (m : List (List Int)) (i : Int) : (nbs m i).length ≤ 4 := by
  by_cases h : NbOk m i
  · rw [nbs_yes h]; exact Nat.le_trans (nbK_len _ _ _) h.1.2.2.2
  · rw [nbs_no h]; simp
theorem makesS_nil {w w' : World} {x : Value} {l : List Int} (hl : l = []) (h : RowI w.heap.size w'.heap.size w' x []) (hb : Below w.heap.size w w') : MakesS w l (.returned x) w' :=
  ⟨x, rfl, by rw [hl]; exact ⟨h, Nat.le_refl _⟩, hb⟩
theorem RowI.nil (A B : Nat) (w : World) : RowI A B w (.slice none 0 0) [] := ⟨World.ownsRow_nil _ _ _ _, fun g h => by simp [Value.ownBlock] at h⟩

end Go.Proofs.YtnlbmnielemgiaaGreat
namespace Go.Proofs.YtnlbmnielemgiaaGreat
open Go.RowKit

/-! ### A matrix filled row by row -/
def rowF (f : Nat → Nat → Int) (n r : Nat) : List Int := (List.range n).map (f r)
def fullF (f : Nat → Nat → Int) (n : Nat) : List (List Int) := (List.range n).map (rowF f n)
def fillF (f : Nat → Nat → Int) (n k j : Nat) : List (List Int) := (List.range n).map fun r => (List.range n).map fun c => if r < k ∨ (r = k ∧ c < j) then f r c else 0
theorem rowF_len (f : Nat → Nat → Int) (n r : Nat) : (rowF f n r).length = n := by simp [rowF]
theorem fullF_len (f : Nat → Nat → Int) (n : Nat) : (fullF f n).length = n := by simp [fullF]
theorem fillF_len (f : Nat → Nat → Int) (n k j : Nat) : (fillF f n k j).length = n := by simp [fillF]
theorem rowF_step (f : Nat → Nat → Int) (n r c : Nat) (h : c < n) : (rowF f n r).take c ++ [f r c] = (rowF f n r).take (c + 1) := by
  rw [List.take_succ_eq_append_getElem (by rw [rowF_len]; exact h)]; simp [rowF]
theorem fullF_step (f : Nat → Nat → Int) (n r : Nat) (h : r < n) : (fullF f n).take r ++ [rowF f n r] = (fullF f n).take (r + 1) := by
  rw [List.take_succ_eq_append_getElem (by rw [fullF_len]; exact h)]; simp [fullF]
theorem rowF_end (f : Nat → Nat → Int) (n r : Nat) : (rowF f n r).take n = rowF f n r := List.take_of_length_le (by rw [rowF_len]; exact Nat.le_refl _)
theorem fullF_end (f : Nat → Nat → Int) (n : Nat) : (fullF f n).take n = fullF f n := List.take_of_length_le (by rw [fullF_len]; exact Nat.le_refl _)
theorem fillF_row (f : Nat → Nat → Int) (n k j r : Nat) (h : r < n) : ((fillF f n k j).getD r []).length = n := by simp [fillF, List.getD, h]
theorem fillF_zero (f : Nat → Nat → Int) (n : Nat) : fillF f n 0 0 = zeros n := by
  apply List.ext_getElem
  · simp [fillF, zeros]
  · intro i h1 h2
    simp only [fillF, zeros, zerosR, List.getElem_map, List.getElem_range, List.getElem_replicate]
    apply List.ext_getElem
    · simp
    · intro c h3 h4; simp
theorem fillF_next (f : Nat → Nat → Int) (n k : Nat) : fillF f n k n = fillF f n (k + 1) 0 := by
  unfold fillF
  apply List.map_congr_left
  intro r _
  apply List.map_congr_left
  intro c hc
  have hc : c < n := by simpa using hc
  by_cases h : r ≤ k
  · rw [if_pos (by omega), if_pos (by omega)]
  · rw [if_neg (by omega), if_neg (by omega)]
theorem fillF_end (f : Nat → Nat → Int) (n : Nat) : fillF f n n 0 = fullF f n := by
  unfold fillF fullF rowF
  apply List.map_congr_left
  intro r hr
  have hr : r < n := by simpa using hr
  apply List.map_congr_left
  intro c _
  rw [if_pos (by omega)]
theorem fillF_step (f : Nat → Nat → Int) (n k j : Nat) (hk : k < n) (_hj : j < n) : set2 (fillF f n k j) k j (f k j) = fillF f n k (j + 1) := by
  apply List.ext_getElem
  · simp [fillF, set2]
  · intro i h1 h2
    have hi : i < n := by simpa [fillF] using h2
    by_cases hik : i = k
    · subst hik
      rw [set2_at]
      have hg : (fillF f n i j).getD i [] = (List.range n).map fun c => if i < i ∨ (i = i ∧ c < j) then f i c else 0 := by simp [fillF, List.getD, hi]
      rw [hg]
      simp only [fillF, List.getElem_map, List.getElem_range]
      apply List.ext_getElem
      · simp
      · intro c h3 h4
        rw [List.getElem_set]
        simp only [List.getElem_map, List.getElem_range]
        by_cases hc : j = c
        · subst hc
          simp
        · rw [if_neg hc]
          by_cases hlt : c < j
          · simp [hlt, show c < j + 1 by omega]
          · simp [hlt, show ¬ c < j + 1 by omega]
    · rw [set2_ne _ _ _ _ _ _ (by rw [fillF_len]; exact hi) hik]
      simp only [fillF, List.getElem_map, List.getElem_range]
      apply List.map_congr_left
      intro c _
      by_cases hc : i < k ∨ (i = k ∧ c < j)
      · rw [if_pos hc, if_pos (by omega)]
      · rw [if_neg hc, if_neg (by omega)]
theorem fullF_small (f : Nat → Nat → Int) (n : Nat) (h : n ≤ 1000) : szSum (fullF f n) ≤ 1048576 := by
  have : (fullF f n).map List.length = List.replicate n n := by
    apply List.ext_getElem
    · simp [fullF]
    · intro i h1 h2; simp [fullF, rowF]
  unfold szSum
  rw [fullF_len, this, List.sum_replicate_nat]
  have : n * n ≤ 1000 * 1000 := Nat.mul_le_mul h h
  omega

/-! ### Points of a matrix -/
def ptsF (m : List (List Int)) (l : List Int) (r c : Nat) : Int := entry m (l.getD r 0).toNat (l.getD c 0).toNat
def pick (m : List (List Int)) (l : List Int) : List (List Int) := fullF (ptsF m l) l.length
def AllPt (n : Nat) (l : List Int) : Prop := ∀ k, k < l.length → 0 ≤ l.getD k 0 ∧ l.getD k 0 ≤ (n : Int) - 1
set_option maxHeartbeats 4000000 in
set_option maxRecDepth 100000 in
theorem pickp_any (B B' : Nat) (v v' : Value) (m : List (List Int)) (l : List Int) (w : World) (h : MatB B w v m) (h' : RowB B' w v' l) (hB : B ≤ w.heap.size) (hB' : B' ≤ w.heap.size) (hf : RowsFit m)
    (hrows : Rows0 m m.length m.length) (hp : AllPt m.length l) (hll : l.length ≤ 1000) :
    Calls Tryz.prog 101 #[v, v'] w (MakesM w (pick m l)) := by
  obtain ⟨a, cap, rfl⟩ := h.slice
  obtain ⟨a', cap', rfl⟩ := h'.slice
  have hl := hf.1
  have HR := Lib.hid h; clear h
  have HL := Lib.hid h'; clear h'
  have HF := Lib.hid hf; clear hf
  have HRW := Lib.hid hrows; clear hrows
  have HP := Lib.hid hp; clear hp
  have HPK := Lib.hid (show pick m l = fullF (ptsF m l) l.length from rfl)
  generalize pick m l = R at *
  generalize hn : m.length = n at *
  unfold maxLen at hl
  have HN := Lib.hid hn; clear hn
  generalize hln : l.length = L at *
  have HLN := Lib.hid hln; clear hln
  go_enter Tryz.func101, Tryz.ntmps101
  go_wp2_with fail
  refine (zm_any L w (by omega)).mono ?_
  rintro e w2 ⟨x, rfl, ⟨hm2, _⟩, hb2⟩
  have hz := zeros_len L
  obtain ⟨ra, rcap0, rfl⟩ := hm2.slice
  rw [hz] at hm2 ⊢
  rw [← fillF_zero (ptsF m l) L] at hm2
  have HM := Lib.hid hm2; clear hm2 hz
  have HB2 := Lib.hid hb2; clear hb2
  go_wp2_with fail
  go_loopw [15] (fun i wr => ∃ (k : Nat) (wq : World), wq = wr ∧ k ≤ L ∧ i = .int .i64 k ∧ MatI w.heap.size w2.heap.size wq (.slice ra L rcap0) (fillF (ptsF m l) L k 0) ∧ Below w.heap.size w wq ∧ wq.heap.size = w2.heap.size) (fun i _ => L - (intOf i).toNat)
  case atStart => exact ⟨0, _, rfl, Nat.zero_le _, rfl, HM.out, HB2.out, rfl⟩
  case round =>
    obtain ⟨k, wq, rfl, hk, rfl, hM, hb, hsq⟩ := hrel
    have HMQ := Lib.hid hM; clear hM
    have HBQ := Lib.hid hb; clear hb
    have HSQ := Lib.hid hsq; clear hsq
    by_cases hlt : k < L
    · obtain ⟨lb, loff, rfl, hlb, hlc⟩ := (HL.out.below HBQ.out hB').getD hlt
      obtain ⟨hp0, hp1⟩ := HP.out k (by rw [HLN.out]; exact hlt)
      obtain ⟨p, hpe⟩ := Int.eq_ofNat_of_zero_le hp0
      have hpn : p < n := by omega
      have HPE := Lib.hid hpe
      rw [hpe] at hlc
      clear hp0 hp1 hpe
      have hlb2 : lb < w.heap.size := by omega
      have HLB := Lib.hid hlb2; clear hlb2 hlb
      go_wp2_with fail
      clear hlc
      go_loopw [22] (fun i wr => ∃ (j : Nat) (wi : World), wi = wr ∧ j ≤ L ∧ i = .int .i64 j ∧ MatI w.heap.size w2.heap.size wi (.slice ra L rcap0) (fillF (ptsF m l) L k j) ∧ Below w.heap.size w wi ∧ wi.heap.size = w2.heap.size) (fun i _ => L - (intOf i).toNat)
      case atStart => exact ⟨0, _, rfl, Nat.zero_le _, rfl, HMQ.out, HBQ.out, HSQ.out⟩
      case round =>
        obtain ⟨j, wi, rfl, hj, rfl, hM, hb, hsi⟩ := hrel
        have HMI := Lib.hid hM; clear hM
        have HBI := Lib.hid hb; clear hb
        have HSI := Lib.hid hsi; clear hsi
        by_cases hjn : j < L
        · obtain ⟨lb', loff', hla, hlb', hlc'⟩ := (HL.out.below HBI.out hB').getD hjn
          injection hla with hla
          injection hla with hla1 hla2
          subst hla1
          subst hla2
          obtain ⟨hp0, hp1⟩ := HP.out j (by rw [HLN.out]; exact hjn)
          obtain ⟨q, hqe⟩ := Int.eq_ofNat_of_zero_le hp0
          have hqn : q < n := by omega
          have hpt : ptsF m l k j = entry m p q := by unfold ptsF; rw [HPE.out, hqe]; rfl
          rw [hqe] at hlc'
          clear hp0 hp1 hqe hlb'
          obtain ⟨b, off, rb, roff, rcap, rfl, hc1, hx⟩ := (HR.out.below HBI.out hB).entry HRW.out hpn hqn
          obtain ⟨g, r, orcap, rfl, ho1, ho2, ho3, ho4, ho5, hput⟩ := HMI.out.put (j := k) (c := j) (by rw [fillF_len]; exact hlt) (by rw [fillF_row _ _ _ _ _ hlt]; exact hjn)
          rw [fillF_row _ _ _ _ _ hlt] at ho1
          have hp := hput (entry m p q)
          rw [← hpt, fillF_step _ _ _ _ hlt hjn, hpt] at hp
          have HPP := Lib.hid hp
          have HBS := Lib.hid (HBI.out.setCell (p := ⟨r, j, none⟩) ho4 (.int .i64 (entry m p q)))
          have hszz : (wi.setCell ⟨r, j, none⟩ (.int .i64 (entry m p q))).heap.size = w2.heap.size := by rw [World.size_setCell]; exact HSI.out
          have HSS := Lib.hid hszz
          clear hput hp hszz hpt
          generalize entry m p q = x at *
          generalize ((fillF (ptsF m l) L k j).getD k []).getD j 0 = y at *
          go_wp2_with fail
          go_region
          go_wp2_with fail
          exact ⟨⟨j + 1, _, rfl, by omega, by go_num, HPP.out, HBS.out.drew, HSS.out⟩, by simp [intOf]; omega⟩
        · obtain rfl : j = L := by omega
          go_wp2_with fail
          exact ⟨⟨k + 1, _, rfl, by omega, by go_num, by rw [← fillF_next]; exact HMI.out, HBI.out, HSI.out⟩, by simp [intOf]; omega⟩
    · obtain rfl : k = L := by omega
      go_wp2_with fail
      go_ret
      have hM := HMQ.out
      rw [fillF_end] at hM
      exact ⟨_, rfl, by rw [HPK.out, HSQ.out]; exact ⟨hM, by rw [HSQ.out]; exact Nat.le_refl _⟩, HBQ.out⟩
end Go.Proofs.YtnlbmnielemgiaaGreat
