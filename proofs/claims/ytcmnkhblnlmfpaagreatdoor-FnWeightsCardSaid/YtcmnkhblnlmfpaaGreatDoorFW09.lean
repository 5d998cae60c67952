/-
  JoinCartans of the program: what the call returns.
-/
import Derived.Test.YtcmnkhblnlmfpaaGreatDoorFW08
namespace Go.Proofs.YtcmnkhblnlmfpaaGreatDoor
open Go.RowKit

/-- The first k rows are laid, the others are zeros. -/
def stJ (J : List (List Int)) (N k : Nat) : List (List Int) := J.take k ++ List.replicate (N - k) (zerosR N)
theorem stJ_len {J : List (List Int)} {N k : Nat} (hJ : J.length = N) (hk : k ≤ N) : (stJ J N k).length = N := by simp [stJ, hJ]; omega
theorem stJ_get {J : List (List Int)} {N k : Nat} (hJ : J.length = N) (hk : k < N) : (stJ J N k).getD k [] = zerosR N := by
  have h : (J.take k).length = k := by simp [hJ]; omega
  unfold stJ List.getD
  rw [List.getElem?_append_right (by omega), h, Nat.sub_self, List.getElem?_replicate, if_pos (by omega)]
  rfl
theorem stJ_step {J : List (List Int)} {N k : Nat} {row : List Int} (hJ : J.length = N) (hk : k < N) (hrow : J.take k ++ [row] = J.take (k + 1)) : (stJ J N k).set k row = stJ J N (k + 1) := by
  have h : (J.take k).length = k := by simp [hJ]; omega
  unfold stJ
  rw [← hrow, List.set_append_right _ _ (by omega), h, Nat.sub_self]
  obtain ⟨d, hd⟩ : ∃ d, N - k = d + 1 := ⟨N - k - 1, by omega⟩
  rw [hd, show N - (k + 1) = d by omega, List.replicate_succ, List.set_cons_zero]
  simp
theorem stJ_zero (J : List (List Int)) (N : Nat) : stJ J N 0 = zeros N := by simp [stJ, zeros]
theorem stJ_end {J : List (List Int)} {N : Nat} (hJ : J.length = N) : stJ J N N = J := by simp [stJ, ← hJ]
theorem spl_zeros_top (N : Nat) (r : List Int) (n n' : Nat) (hr : r.length = n) (hN : N = n + n') : spl (zerosR N) 0 r = r ++ List.replicate n' 0 := by
  subst hN; simp [spl, zerosR, hr]
theorem spl_zeros_low (N : Nat) (r : List Int) (n n' : Nat) (hr : r.length = n') (hN : N = n + n') : spl (zerosR N) n r = List.replicate n 0 ++ r := by
  subst hN; simp [spl, zerosR, hr, List.take_replicate]

set_option maxHeartbeats 4000000 in
set_option maxRecDepth 100000 in
theorem joi_yes (B B' : Nat) (v v' : Value) (m m' : List (List Int)) (w : World) (h : MatB B w v m) (h' : MatB B' w v' m') (hB : B ≤ w.heap.size) (hB' : B' ≤ w.heap.size) (hf : RowsFit m) (hf' : RowsFit m') (hj : JoinOk m m') :
    Calls Tryz.prog 49 #[v, v'] w (MakesM2 w (joinL m m') (.bool true)) := by
  obtain ⟨a, cap, rfl⟩ := h.slice
  obtain ⟨a', cap', rfl⟩ := h'.slice
  have HR := Lib.hid h; clear h
  have HR' := Lib.hid h'; clear h'
  have HF := Lib.hid hf; clear hf
  have HF' := Lib.hid hf'; clear hf'
  obtain ⟨hc1, hc2, h4⟩ := hj
  have h1 := hc1.2.2.1
  have h1' := hc2.2.2.1
  have HC := Lib.hid (isB_yes hc1)
  have HC' := Lib.hid (isB_yes hc2)
  have HROW := Lib.hid (fun (k : Nat) (hk : k < m.length) => isC_row hc1 hk)
  have HROW' := Lib.hid (fun (k : Nat) (hk : k < m'.length) => isC_row hc2 hk)
  have HTOP := Lib.hid (joinL_top m m')
  have HLOW := Lib.hid (joinL_low m m')
  have HLEN := Lib.hid (joinL_len m m')
  clear hc1 hc2
  generalize hn : m.length = n at *
  generalize hn' : m'.length = n' at *
  generalize hJ : joinL m m' = J at *
  have HN := Lib.hid hn; clear hn
  have HN' := Lib.hid hn'; clear hn'
  clear hJ
  go_enter Tryz.func49, Tryz.ntmps49
  go_wp2_with fail
  refine (icm_w B _ m true HC.out _ HR.out HF.out).mono ?_
  rintro e w1 ⟨rfl, hb1⟩
  have HB1 := Lib.hid hb1
  have hs1 := hb1.size
  clear hb1
  go_wp2_with fail
  refine (icm_w B' _ m' true HC'.out _ (HR'.out.below HB1.out hB') HF'.out).mono ?_
  rintro e w2 ⟨rfl, hb2⟩
  have HB2 := Lib.hid (HB1.out.trans (hb2.mono hs1))
  clear hb2
  have hs2 := HB2.out.size
  have hd : decide (4 < (n : Int) + n') = false := decide_eq_false (by omega)
  go_wp2_with fail
  clear hd
  have hzm := zm_any (n + n') w2 (by omega)
  rw [show ((n + n' : Nat) : Int) = (n : Int) + n' by omega] at hzm
  refine hzm.mono ?_
  clear hzm
  rintro e w3 ⟨x, rfl, ⟨hm3, _⟩, hb3⟩
  have hz := zeros_len (n + n')
  obtain ⟨ra0, rcap0, rfl⟩ := hm3.slice
  rw [hz] at hm3 ⊢
  rw [← stJ_zero J] at hm3
  have hm3 := hm3.mono (hs2 : w.heap.size ≤ w2.heap.size) (Nat.le_refl _)
  have HM := Lib.hid hm3
  have HB3 := Lib.hid (HB2.out.trans (hb3.mono hs2))
  clear hb3 hm3 hz
  generalize hN : n + n' = N at *
  go_wp2_with fail
  go_loopw [35] (fun i wr => ∃ (k : Nat) (wq : World), wq = wr ∧ k ≤ n ∧ i = .int .i64 k ∧ MatI w.heap.size w3.heap.size wq (.slice ra0 N rcap0) (stJ J N k) ∧ Below w.heap.size w wq ∧ wq.heap.size = w3.heap.size) (fun i _ => n - (intOf i).toNat)
  case atStart => exact ⟨0, _, rfl, Nat.zero_le _, rfl, HM.out, HB3.out, rfl⟩
  case round =>
    obtain ⟨k, wq, rfl, hk, rfl, hM, hb, hsq⟩ := hrel
    have HMQ := Lib.hid hM; clear hM
    have HBQ := Lib.hid hb; clear hb
    have HSQ := Lib.hid hsq; clear hsq
    by_cases hlt : k < n
    · have hkl : k < m.length := by rw [HN.out]; exact hlt
      obtain ⟨b, off, ra, rcap, rfl, hbB, hcell, hrow⟩ := (HR.out.below HBQ.out hB).rowAt hlt hkl
      have hrl : (m.getD k []).length = n := HROW.out k hlt
      rw [hrl] at hcell hrow
      have htk := HTOP.out k hlt
      generalize m.getD k [] = r at *
      have hkN : k < N := by omega
      obtain ⟨g, rr, orcap, rfl, ho1, ho2, ho3, hct⟩ := HMQ.out.copyTo (j := k) (by rw [stJ_len HLEN.out (by omega)]; exact hkN) (by rw [stJ_get HLEN.out hkN, zerosR_len]; omega)
      rw [stJ_get HLEN.out hkN, zerosR_len] at ho1 ho2
      have hset := stJ_step HLEN.out hkN htk
      rw [← spl_zeros_top N r n n' hrl hN.symm, ← stJ_get HLEN.out hkN] at hset
      have hfit : 0 + r.length ≤ ((stJ J N k).getD k []).length := by rw [stJ_get HLEN.out hkN, zerosR_len, hrl]; omega
      have HSET := Lib.hid hset
      have HCT := Lib.hid hct
      have HFIT := Lib.hid hfit
      have HROW1 := Lib.hid hrow
      have HNE := Lib.hid (ne_nil_of_len (l := r) (by omega))
      have HRL : Hid (r.length ≤ N) := Lib.hid (by omega)
      clear htk hset hfit hrow hct
      clear hrl
      go_wp2_with (with_reducible refine copy_row (o := ⟨some 45, _, _, _, _, _⟩) HCT.out ho3 HROW1.out HNE.out 0 N orcap HFIT.out HRL.out HSET.out rfl rfl rfl rfl ?_)
      intro w5 hm5 hb5 hz5
      have HM5 := Lib.hid hm5
      have HB5 := Lib.hid (hb5 w w.heap.size (Nat.le_refl _) HBQ.out)
      have HZ5 := Lib.hid (hz5.trans HSQ.out)
      clear hm5 hb5 hz5
      go_wp2_with fail
      exact ⟨⟨k + 1, _, rfl, by omega, by go_num, HM5.out, HB5.out, HZ5.out⟩, by simp [intOf]; omega⟩
    · obtain rfl : k = n := by omega
      go_wp2_with fail
      go_loopw [49] (fun i wr => ∃ (j : Nat) (wq : World), wq = wr ∧ j ≤ n' ∧ i = .int .i64 j ∧ MatI w.heap.size w3.heap.size wq (.slice ra0 N rcap0) (stJ J N (k + j)) ∧ Below w.heap.size w wq ∧ wq.heap.size = w3.heap.size) (fun i _ => n' - (intOf i).toNat)
      case atStart => exact ⟨0, _, rfl, Nat.zero_le _, rfl, HMQ.out, HBQ.out, HSQ.out⟩
      case round =>
        clear HMQ HBQ HSQ
        clear wq
        obtain ⟨j, wq, rfl, hj, rfl, hM, hb, hsq⟩ := hrel
        have HMQ := Lib.hid hM; clear hM
        have HBQ := Lib.hid hb; clear hb
        have HSQ := Lib.hid hsq; clear hsq
        by_cases hjt : j < n'
        · have hkl : j < m'.length := by rw [HN'.out]; exact hjt
          obtain ⟨b, off, ra, rcap, rfl, hbB, hcell, hrow⟩ := (HR'.out.below HBQ.out hB').rowAt hjt hkl
          have hrl : (m'.getD j []).length = n' := HROW'.out j hjt
          rw [hrl] at hcell hrow
          have htk := HLOW.out j hjt
          generalize m'.getD j [] = r at *
          have hkN : k + j < N := by omega
          obtain ⟨g, rr, orcap, rfl, ho1, ho2, ho3, hct⟩ := HMQ.out.copyTo (j := k + j) (by rw [stJ_len HLEN.out (by omega)]; exact hkN) (by rw [stJ_get HLEN.out hkN, zerosR_len]; omega)
          rw [stJ_get HLEN.out hkN, zerosR_len] at ho1 ho2
          rw [← Nat.add_assoc] at htk
          have hset := stJ_step HLEN.out hkN htk
          rw [← spl_zeros_low N r k n' hrl hN.symm, ← stJ_get HLEN.out hkN] at hset
          have hfit : k + r.length ≤ ((stJ J N (k + j)).getD (k + j) []).length := by rw [stJ_get HLEN.out hkN, zerosR_len, hrl]; omega
          have HSET := Lib.hid hset
          have HCT := Lib.hid hct
          have HFIT := Lib.hid hfit
          have HROW1 := Lib.hid hrow
          have HNE := Lib.hid (ne_nil_of_len (l := r) (by omega))
          have HRL : Hid (r.length ≤ N - k) := Lib.hid (by omega)
          have hcne : ¬ orcap = k := by omega
          clear htk hset hfit hrow hct
          clear hrl
          go_wp2_with (with_reducible refine copy_row (o := ⟨some 65, _, _, _, _, _⟩) HCT.out ho3 HROW1.out HNE.out k (N - k) (orcap - k) HFIT.out HRL.out HSET.out rfl rfl rfl rfl ?_)
          intro w5 hm5 hb5 hz5
          have HM5 := Lib.hid hm5
          have HB5 := Lib.hid (hb5 w w.heap.size (Nat.le_refl _) HBQ.out)
          have HZ5 := Lib.hid (hz5.trans HSQ.out)
          clear hm5 hb5 hz5
          go_wp2_with fail
          exact ⟨⟨j + 1, _, rfl, by omega, by go_num, HM5.out, HB5.out, HZ5.out⟩, by simp [intOf]; omega⟩
        · obtain rfl : j = n' := by omega
          have hM := HMQ.out
          rw [hN, stJ_end HLEN.out] at hM
          have HM2 := Lib.hid hM
          clear hM
          go_wp2_with fail
          go_ret2
          exact ⟨_, rfl, by rw [HSQ.out]; exact ⟨HM2.out, by rw [HSQ.out]; exact Nat.le_refl _⟩, HBQ.out⟩

set_option maxHeartbeats 2000000 in
set_option maxRecDepth 100000 in
theorem joi_no (B B' : Nat) (v v' : Value) (m m' : List (List Int)) (w : World) (h : MatB B w v m) (h' : MatB B' w v' m') (hB : B ≤ w.heap.size) (hB' : B' ≤ w.heap.size) (hf : RowsFit m) (hf' : RowsFit m') (hj : ¬ JoinOk m m') :
    Calls Tryz.prog 49 #[v, v'] w (MakesM2 w [] (.bool false)) := by
  obtain ⟨a, cap, rfl⟩ := h.slice
  obtain ⟨a', cap', rfl⟩ := h'.slice
  have HR := Lib.hid h; clear h
  have HR' := Lib.hid h'; clear h'
  have HF := Lib.hid hf; clear hf
  have HF' := Lib.hid hf'; clear hf'
  by_cases hc : IsC m
  · have HC := Lib.hid (isB_yes hc)
    by_cases hc' : IsC m'
    · have HC' := Lib.hid (isB_yes hc')
      have h4 : ¬ m.length + m'.length ≤ 4 := fun h => hj ⟨hc, hc', h⟩
      have h5 := hc.2.2.2
      have h6 := hc'.2.2.2
      clear hj hc hc'
      generalize m.length = n at *
      generalize m'.length = n' at *
      have hd : decide (4 < (n : Int) + n') = true := decide_eq_true (by omega)
      go_enter Tryz.func49, Tryz.ntmps49
      go_wp2_with fail
      refine (icm_w B _ m true HC.out _ HR.out HF.out).mono ?_
      rintro e w1 ⟨rfl, hb1⟩
      have HB1 := Lib.hid hb1
      clear hb1
      go_wp2_with fail
      refine (icm_w B' _ m' true HC'.out _ (HR'.out.below HB1.out hB') HF'.out).mono ?_
      rintro e w2 ⟨rfl, hb2⟩
      have HB2 := Lib.hid (HB1.out.trans (hb2.mono HB1.out.size))
      clear hb2
      go_wp2_with fail
      go_ret2
      exact ⟨_, rfl, ⟨MatI.nil _ _ _, Nat.le_refl _⟩, HB2.out⟩
    · have HC' := Lib.hid (isB_no hc')
      clear hj hc hc'
      generalize m.length = n at *
      generalize m'.length = n' at *
      go_enter Tryz.func49, Tryz.ntmps49
      go_wp2_with fail
      refine (icm_w B _ m true HC.out _ HR.out HF.out).mono ?_
      rintro e w1 ⟨rfl, hb1⟩
      have HB1 := Lib.hid hb1
      clear hb1
      go_wp2_with fail
      refine (icm_w B' _ m' false HC'.out _ (HR'.out.below HB1.out hB') HF'.out).mono ?_
      rintro e w2 ⟨rfl, hb2⟩
      have HB2 := Lib.hid (HB1.out.trans (hb2.mono HB1.out.size))
      clear hb2
      go_wp2_with fail
      go_ret2
      exact ⟨_, rfl, ⟨MatI.nil _ _ _, Nat.le_refl _⟩, HB2.out⟩
  · have HC := Lib.hid (isB_no hc)
    clear hj hc
    generalize m.length = n at *
    generalize m'.length = n' at *
    go_enter Tryz.func49, Tryz.ntmps49
    go_wp2_with fail
    refine (icm_w B _ m false HC.out _ HR.out HF.out).mono ?_
    rintro e w2 ⟨rfl, hb2⟩
    have HB2 := Lib.hid hb2
    clear hb2
    go_wp2_with fail
    go_ret2
    exact ⟨_, rfl, ⟨MatI.nil _ _ _, Nat.le_refl _⟩, HB2.out⟩

theorem joi_any (B B' : Nat) (v v' : Value) (m m' : List (List Int)) (w : World) (h : MatB B w v m) (h' : MatB B' w v' m') (hB : B ≤ w.heap.size) (hB' : B' ≤ w.heap.size) (hf : RowsFit m) (hf' : RowsFit m') :
    Calls Tryz.prog 49 #[v, v'] w (MakesM2 w (joinM m m') (.bool (joinB m m'))) := by
  by_cases hj : JoinOk m m'
  · rw [joinM_yes hj, joinB_yes hj]
    exact joi_yes B B' v v' m m' w h h' hB hB' hf hf' hj
  · rw [joinM_no hj, joinB_no hj]
    exact joi_no B B' v v' m m' w h h' hB hB' hf hf' hj

theorem sum_map_le (l : List (List Int)) (N : Nat) (h : ∀ r ∈ l, r.length ≤ N) : (l.map List.length).sum ≤ l.length * N := by
  induction l with
  | nil => simp
  | cons r l ih =>
    simp only [List.map_cons, List.sum_cons, List.length_cons]
    have h1 := h r (by simp)
    have h2 := ih (fun x hx => h x (by simp [hx]))
    rw [Nat.add_mul]; omega
theorem joinM_small (a b : List (List Int)) : szSum (joinM a b) ≤ 1048576 := by
  by_cases hj : JoinOk a b
  · rw [joinM_yes hj]
    have hl := joinL_len a b
    obtain ⟨h1, h2, h3⟩ := hj
    have : ((joinL a b).map List.length).sum ≤ (joinL a b).length * 4 := sum_map_le _ 4 (fun r hr => by
      unfold joinL at hr
      rcases List.mem_append.1 hr with hr | hr
      · obtain ⟨x, hx, rfl⟩ := List.mem_map.1 hr
        obtain ⟨k, hk, rfl⟩ := List.getElem_of_mem hx
        have := isC_row h1 hk
        rw [getD_row a k hk] at this
        simp; omega
      · obtain ⟨x, hx, rfl⟩ := List.mem_map.1 hr
        obtain ⟨k, hk, rfl⟩ := List.getElem_of_mem hx
        have := isC_row h2 hk
        rw [getD_row b k hk] at this
        simp; omega)
    unfold szSum
    omega
  · rw [joinM_no hj]; decide
end Go.Proofs.YtcmnkhblnlmfpaaGreatDoor
