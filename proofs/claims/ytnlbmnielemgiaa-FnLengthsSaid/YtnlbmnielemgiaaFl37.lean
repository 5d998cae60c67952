/-
  Braid moves: what the model's BraidPlaces and its insertion by CompareWords return.
  Braid moves: the search for all reduced words (no walk here).
  Roots: what the model's RootsUpTo, PositiveRoots and HighestRoot return.
-/
import Derived.Test.YtnlbmnielemgiaaFl36
import Derived.Test.YtnlbmnielemgiaaFl35
import Derived.Test.YtnlbmnielemgiaaFl29
namespace Go.Proofs.Ytnlbmnielemgiaa
open Go.RowKit

/-! ### The places -/
noncomputable def brP (m : List (List Int)) (q : List Int) (k : Nat) : List Int := ((List.range k).filter fun (i : Nat) => brB m q (i : Int)).map fun (i : Nat) => (i : Int)
theorem brP_yes {m : List (List Int)} {q : List Int} {k : Nat} (h : brB m q (k : Int) = true) : brP m q k ++ [(k : Int)] = brP m q (k + 1) := by
  unfold brP
  rw [List.range_succ, List.filter_append, List.map_append]
  rw [show (List.filter (fun (i : Nat) => brB m q (i : Int)) [k]) = [k] from by rw [List.filter_cons, if_pos h]; rfl]
  rfl
theorem brP_no {m : List (List Int)} {q : List Int} {k : Nat} (h : brB m q (k : Int) = false) : brP m q k = brP m q (k + 1) := by
  unfold brP
  rw [List.range_succ, List.filter_append, List.map_append]
  rw [show (List.filter (fun (i : Nat) => brB m q (i : Int)) [k]) = [] from by rw [List.filter_cons, if_neg (by rw [h]; simp)]; rfl]
  simp
theorem brP_len (m : List (List Int)) (q : List Int) (k : Nat) : (brP m q k).length ≤ k := by
  unfold brP
  rw [List.length_map]
  have := List.length_filter_le (fun (i : Nat) => brB m q (i : Int)) (List.range k)
  rw [List.length_range] at this
  exact this
theorem brP_at {m : List (List Int)} {q : List Int} {k n : Nat} (h : n < (brP m q k).length) : ∃ t : Nat, t < k ∧ (brP m q k).getD n 0 = (t : Int) ∧ brB m q (t : Int) = true := by
  have e : (brP m q k).getD n 0 = (brP m q k)[n] := by simp [List.getD, h]
  have hm : (brP m q k)[n] ∈ brP m q k := List.getElem_mem h
  rw [e]
  generalize (brP m q k)[n] = x at *
  unfold brP at hm
  obtain ⟨t, ht, rfl⟩ := List.mem_map.1 hm
  rw [List.mem_filter, List.mem_range] at ht
  exact ⟨t, ht.1, rfl, ht.2⟩
theorem brP_in {m : List (List Int)} {q : List Int} {k t : Nat} (hk : t < k) (h : brB m q (t : Int) = true) : ∃ n, n < (brP m q k).length ∧ (brP m q k).getD n 0 = (t : Int) := by
  have hm : (t : Int) ∈ brP m q k := by
    unfold brP
    exact List.mem_map.2 ⟨t, List.mem_filter.2 ⟨List.mem_range.2 hk, h⟩, rfl⟩
  obtain ⟨n, hn, e⟩ := List.getElem_of_mem hm
  exact ⟨n, hn, by simp [List.getD, hn, e]⟩
set_option maxHeartbeats 4000000 in
set_option maxRecDepth 100000 in
theorem braps_any (B A : Nat) (v v' : Value) (m : List (List Int)) (q : List Int) (w : World) (h : MatB B w v m) (h' : RowI A w.heap.size w v' q) (hB : B ≤ w.heap.size) (hf : RowsFit m) (hq : q.length ≤ 100000) :
    Calls Try.prog 71 #[v, v'] w (MakesS w (brP m q q.length)) := by
  have hb0 : Below w.heap.size w (w.alloc (.cells #[] 3)) := (Below.refl _ _).alloc (Nat.le_refl _) _
  have HB0 := Lib.hid hb0
  have HM0 := Lib.hid (show RowI w.heap.size (w.alloc (.cells #[] 3)).heap.size (w.alloc (.cells #[] 3)) (.slice (some ⟨w.heap.size, 0, none⟩) 0 0) (brP m q 0) from row_empty w)
  have HBA := Lib.hid (fun (k : Nat) (hk : k ≤ q.length) (wx : World) (hb : Below w.heap.size w wx) => bats_any B A v v' m q (k : Int) wx (h.below hb hB) (h'.step hb) (Nat.le_trans hB hb.size) hf (by omega) (by omega))
  have HY := Lib.hid (fun k h => brP_yes (m := m) (q := q) (k := k) h)
  have HN := Lib.hid (fun k h => brP_no (m := m) (q := q) (k := k) h)
  have HL := Lib.hid (fun k => brP_len m q k)
  obtain ⟨a, cap, rfl⟩ := h.slice
  obtain ⟨a', cap', rfl⟩ := h'.slice
  clear h h' hf hb0
  generalize hn : q.length = n at *
  clear hn
  go_enter Try.func71, Try.ntmps71
  go_wp2_with fail
  go_loopw [5, 6] (fun o i wr => ∃ (k : Nat) (wq : World), wq = wr ∧ k ≤ n ∧ i = .int .i64 k ∧ RowI w.heap.size wq.heap.size wq o (brP m q k) ∧ Below w.heap.size w wq) (fun _ i _ => n - (intOf i).toNat)
  case atStart => exact ⟨0, _, rfl, Nat.zero_le _, rfl, HM0.out, HB0.out⟩
  case round =>
    obtain ⟨k, wq, rfl, hk, rfl, hM, hb⟩ := hrel
    have HM := Lib.hid hM; have HB := Lib.hid hb
    have hsq := hb.size
    have HC := Lib.hid (HBA.out k hk wq hb)
    clear hM hb
    by_cases hlt : k < n
    · have hd : decide (k < n) = true := decide_eq_true hlt
      have HYK := Lib.hid (HY.out k); have HNK := Lib.hid (HN.out k); have HLK := Lib.hid (HL.out k)
      generalize brB m q (k : Int) = bb at *
      generalize brL m q (k : Int) = yl at *
      go_wp2_with fail
      refine HC.out.mono ?_
      rintro e w2 ⟨y, rfl, hy, hb2⟩
      have HM2 := Lib.hid (HM.out.step hb2)
      have HB2 := Lib.hid (HB.out.trans (hb2.mono hsq))
      have hs2 : w.heap.size ≤ w2.heap.size := HB2.out.size
      clear hy hb2 HC
      cases bb with
      | true =>
        have HE := Lib.hid (HYK.out rfl)
        have HRL := Lib.hid (show (brP m q k).length ≤ 4194304 from by have := HLK.out; omega)
        clear HYK HNK
        go_wp2_with (at_builtin; go_must (refine append_intP HM2.out hs2 rfl (k : Int) rfl rfl rfl rfl HRL.out ?_; intro v6 w6 hr6 hg6 hl6))
        rw [HE.out] at hr6
        have HM6 := Lib.hid hr6
        have HB6 := Lib.hid (HB2.out.grown hg6 hs2 (fun j hj => (HM2.out.1.lt j hj).1))
        clear hr6 hg6 hl6
        go_wp2_with fail
        exact ⟨⟨k + 1, _, rfl, by omega, by go_num, HM6.out, HB6.out⟩, by simp [intOf]; omega⟩
      | false =>
        have HE := Lib.hid (HNK.out rfl)
        clear HYK HNK
        go_wp2_with fail
        exact ⟨⟨k + 1, _, rfl, by omega, by go_num, by rw [← HE.out]; exact HM2.out, HB2.out⟩, by simp [intOf]; omega⟩
    · obtain rfl : k = n := by omega
      have hd : decide (k < k) = false := by simp
      clear HC
      go_wp2_with fail
      go_ret
      exact ⟨_, rfl, ⟨HM.out, Nat.le_refl _⟩, HB.out⟩
/-! ### Words in their order -/
def p11F (r : List Int) (s : List (List Int) × Bool) (x : List Int) : List (List Int) × Bool :=
  if cmpW r x = 0 then (s.1 ++ [x], true) else if cmpW r x < 0 ∧ s.2 = false then (s.1 ++ [r] ++ [x], true) else (s.1 ++ [x], s.2)
def p11K (L : List (List Int)) (r : List Int) (k : Nat) : List (List Int) × Bool := (L.take k).foldl (p11F r) ([], false)
def put11 (L : List (List Int)) (r : List Int) : List (List Int) := if (p11K L r L.length).2 = true then (p11K L r L.length).1 else (p11K L r L.length).1 ++ [r]
theorem p11K_step {L : List (List Int)} {r : List Int} {k : Nat} (h : k < L.length) : p11K L r (k + 1) = p11F r (p11K L r k) (L.getD k []) := by
  have e : L.getD k [] = L[k] := by simp [List.getD, h]
  unfold p11K
  rw [List.take_succ_eq_append_getElem h, List.foldl_append, e]; rfl
theorem p11F_len (r : List Int) (s : List (List Int) × Bool) (x : List Int) : (p11F r s x).1.length ≤ s.1.length + 2 := by
  unfold p11F
  split
  · simp
  · split <;> simp
theorem p11K_len (L : List (List Int)) (r : List Int) : ∀ k, k ≤ L.length → (p11K L r k).1.length ≤ 2 * k
  | 0, _ => by simp [p11K]
  | k + 1, h => by
    rw [p11K_step (by omega)]
    have := p11F_len r (p11K L r k) (L.getD k [])
    have := p11K_len L r k (by omega)
    omega
set_option maxHeartbeats 8000000 in
set_option maxRecDepth 100000 in
theorem put11s_any (A B' : Nat) (v v' : Value) (L : List (List Int)) (r : List Int) (w : World) (h : MatA A A w v L) (h' : RowB B' w v' r) (hA : A ≤ w.heap.size) (hB' : B' ≤ w.heap.size) (hl : L.length ≤ 30000) (hf : ∀ x ∈ L, x.length ≤ 100) (hr : r.length ≤ 100) :
    Calls Try.prog 74 #[v, v'] w fun e w' => ∃ x, e = .returned x ∧ MatA A w.heap.size w' x (put11 L r) ∧ Below w.heap.size w w' := by
  have HRB := Lib.hid h'
  have HBF := Lib.hid (fun (k : Nat) (y : Value) (wx : World) (hb : Below w.heap.size w wx) (hy : RowB wx.heap.size wx y (L.getD k [])) => cmps_any wx.heap.size v' y r (L.getD k []) wx ((h'.below hb hB').mono (Nat.le_trans hB' hb.size)) hy (by unfold maxLen; omega) (by have := getD_le hf k; unfold maxLen; omega))
  obtain ⟨a, cap, rfl⟩ := h.slice
  obtain ⟨a', cap', rfl⟩ := h'.slice
  have HL := Lib.hid h
  have HST := Lib.hid (fun k (hk : k < L.length) => p11K_step (r := r) hk)
  have HLE := Lib.hid (fun k (hk : k ≤ L.length) => p11K_len L r k hk)
  have HEN := Lib.hid (show put11 L r = if (p11K L r L.length).2 = true then (p11K L r L.length).1 else (p11K L r L.length).1 ++ [r] from rfl)
  have HFD := Lib.hid (fun (s : List (List Int) × Bool) (x : List Int) => show p11F r s x = if cmpW r x = 0 then (s.1 ++ [x], true) else if cmpW r x < 0 ∧ s.2 = false then (s.1 ++ [r] ++ [x], true) else (s.1 ++ [x], s.2) from rfl)
  have HRL := Lib.hid (show ([] : List Int).length + r.length ≤ 4194304 by simp; omega)
  clear h h' hf
  generalize put11 L r = R at *
  generalize hn : L.length = n at *
  have HN := Lib.hid hn
  generalize hrn : r.length = rn at *
  have HRN := Lib.hid hrn
  clear hn hrn
  go_enter Try.func74, Try.ntmps74
  go_wp2_with fail
  go_loopw [5, 6, 7] (fun o p i wr => ∃ (k : Nat) (wq : World), wq = wr ∧ k ≤ n ∧ i = .int .i64 k ∧ p = .bool (p11K L r k).2 ∧ MatA A w.heap.size wq o (p11K L r k).1 ∧ Below w.heap.size w wq) (fun _ _ i _ => n - (intOf i).toNat)
  case atStart => exact ⟨0, _, rfl, Nat.zero_le _, rfl, rfl, MatA.empty A w, (Below.refl _ _).alloc (Nat.le_refl _) _⟩
  case round =>
    obtain ⟨k, wq, rfl, hk, rfl, rfl, hM, hb⟩ := hrel
    have hsq := hb.size
    have HM := Lib.hid hM
    have HB := Lib.hid hb
    have hlen : (p11K L r k).1.length ≤ 60001 := by have := HLE.out k hk; omega
    by_cases hlt : k < n
    · have hlt' : decide (k < n) = true := decide_eq_true hlt
      obtain ⟨g, ra, rcap, hkl, rfl, hg, hc0, hrow0⟩ := HL.out.rowA hlt
      have HROW0 := Lib.hid hrow0
      have HC0 := Lib.hid hc0
      have HROW := Lib.hid (hrow0.step hb)
      have hc := (hb.cell (p := ⟨g, k, none⟩) hg).trans hc0
      have HBQ := Lib.hid (HBF.out k _ wq hb HROW.out.rowB)
      have HSK := Lib.hid (HST.out k hlt)
      have HFX := Lib.hid (HFD.out (p11K L r k) (L.getD k []))
      clear hM hb hrow0 hc0 HBF
      generalize L.getD k [] = x at *
      generalize cmpW r x = c at *
      generalize hxn : x.length = xn at *
      have HXN := Lib.hid hxn; clear hxn
      generalize hp : (p11K L r k).2 = p at *
      generalize hO1 : (p11K L r k).1 = O at *
      have HP2 := Lib.hid hp; have HP1 := Lib.hid hO1
      clear hp hO1
      by_cases h0 : c = 0
      · subst h0
        have HE := Lib.hid (show p11K L r (k + 1) = (O ++ [x], true) from by rw [HSK.out, HFX.out, if_pos rfl])
        clear HSK HFX HP2 HP1
        cases p
        all_goals
          have hO : O.length ≤ 1048576 := by omega
          have HO := Lib.hid hO; clear hO
          go_wp2_with fail
          refine HBQ.out.mono ?_
          rintro e w1 ⟨rfl, q, rfl⟩
          have HMQ := Lib.hid (HM.out.step (below_drewN q))
          have HRQ := Lib.hid (HROW.out.step (below_drewN q))
          have HBB := Lib.hid (HB.out.trans ((below_drewN (w := wq) q).mono hsq))
          have hsq' : w.heap.size ≤ (wq.drewN q).heap.size := hsq
          go_wp2_with (at_builtin; go_must (refine append_rowA HMQ.out HRQ.out hsq' rfl rfl rfl rfl HO.out ?_))
          intro v5 w5 hm5 hb5 hz5
          have HM5 := Lib.hid hm5
          have HB5 := Lib.hid (hb5 w w.heap.size (Nat.le_refl _) HBB.out)
          clear hm5 hb5 hz5
          go_wp2_with fail
          exact ⟨⟨k + 1, _, rfl, by omega, by go_num, by rw [HE.out], by rw [HE.out]; exact HM5.out, HB5.out⟩, by simp [intOf]; omega⟩
      · have hc0 : (c == 0) = false := by rw [beq_eq_false_iff_ne]; exact h0
        by_cases hn0 : c < 0
        · have hd0 : decide (c < 0) = true := decide_eq_true hn0
          cases p with
          | true =>
            have HE := Lib.hid (show p11K L r (k + 1) = (O ++ [x], true) from by rw [HSK.out, HFX.out, if_neg h0, if_neg (by rintro ⟨_, h⟩; exact absurd h (by simp))])
            clear HSK HFX HP2 HP1
            have hO : O.length ≤ 1048576 := by omega
            have HO := Lib.hid hO; clear hO
            go_wp2_with fail
            refine HBQ.out.mono ?_
            rintro e w1 ⟨rfl, q, rfl⟩
            have HMQ := Lib.hid (HM.out.step (below_drewN q))
            have HRQ := Lib.hid (HROW.out.step (below_drewN q))
            have HBB := Lib.hid (HB.out.trans ((below_drewN (w := wq) q).mono hsq))
            have hsq' : w.heap.size ≤ (wq.drewN q).heap.size := hsq
            go_wp2_with (at_builtin; go_must (refine append_rowA HMQ.out HRQ.out hsq' rfl rfl rfl rfl HO.out ?_))
            intro v5 w5 hm5 hb5 hz5
            have HM5 := Lib.hid hm5
            have HB5 := Lib.hid (hb5 w w.heap.size (Nat.le_refl _) HBB.out)
            clear hm5 hb5 hz5
            go_wp2_with fail
            exact ⟨⟨k + 1, _, rfl, by omega, by go_num, by rw [HE.out], by rw [HE.out]; exact HM5.out, HB5.out⟩, by simp [intOf]; omega⟩
          | false =>
            have HE := Lib.hid (show p11K L r (k + 1) = (O ++ [r] ++ [x], true) from by rw [HSK.out, HFX.out, if_neg h0, if_pos ⟨hn0, rfl⟩])
            clear HSK HFX HP2 HP1
            have hO : O.length ≤ 1048576 := by omega
            have HO := Lib.hid hO; clear hO
            have hO2 : (O ++ [r]).length ≤ 1048576 := by rw [List.length_append]; simp; omega
            have HO2 := Lib.hid hO2; clear hO2
            go_wp2_with fail
            refine HBQ.out.mono ?_
            rintro e w1 ⟨rfl, q, rfl⟩
            obtain ⟨wq2, hwq2⟩ : ∃ wq2, wq2 = wq.drewN q := ⟨_, rfl⟩
            have HMQ : Hid (MatA A w.heap.size wq2 _ O) := Lib.hid (by rw [hwq2]; exact HM.out.step (below_drewN q))
            have HBB : Hid (Below w.heap.size w wq2) := Lib.hid (by rw [hwq2]; exact HB.out.trans ((below_drewN (w := wq) q).mono hsq))
            have hsq2 : w.heap.size ≤ wq2.heap.size := HBB.out.size
            rw [← hwq2]
            clear hwq2 hc
            have hrow1 : RowB B' (wq2.alloc (.cells #[] 3)) (.slice a' rn cap') r := HRB.out.below (HBB.out.alloc hsq2 _) hB'
            have HROW1 := Lib.hid hrow1
            have hq1 : wq2.heap.size ≤ (wq2.alloc (.cells #[] 3)).heap.size := by simp
            clear hrow1
            go_wp2_with (at_builtin; go_must (refine append_intsA (row_empty wq2) hq1 HROW1.out (by rw [HRN.out]; exact HRL.out) rfl rfl rfl rfl ?_))
            intro v3 w3 hr3 hb3 hz3
            have hr3 : RowI wq2.heap.size w3.heap.size w3 v3 r := by simpa using hr3
            have hb3' := hb3 wq2 wq2.heap.size (Nat.le_refl _) ((Below.refl _ _).alloc (Nat.le_refl _) _)
            obtain ⟨xa, xn2, xc, rfl⟩ := hr3.slice3
            have HR3 := Lib.hid (hr3.mono (by omega : A ≤ wq2.heap.size) (Nat.le_refl _))
            have HM3 := Lib.hid (HMQ.out.step hb3')
            have HB4 := Lib.hid (HBB.out.trans (hb3'.mono hsq2))
            have hs4 : w.heap.size ≤ w3.heap.size := HB4.out.size
            clear hb3 hz3 hr3 hb3'
            go_wp2_with (at_builtin; go_must (refine append_rowA HM3.out HR3.out hs4 rfl rfl rfl rfl HO.out ?_))
            intro v5 w5 hm5 hb5 hz5
            have HM5 := Lib.hid hm5
            have HB5 := Lib.hid (hb5 w w.heap.size (Nat.le_refl _) HB4.out)
            have hs5 : w.heap.size ≤ w5.heap.size := HB5.out.size
            have HX5 := Lib.hid (HROW0.out.step HB5.out)
            have hc5 := (HB5.out.cell (p := ⟨g, k, none⟩) hg).trans HC0.out
            clear hm5 hb5 hz5
            go_wp2_with (at_builtin; go_must (refine append_rowA HM5.out HX5.out hs5 rfl rfl rfl rfl HO2.out ?_))
            intro v6 w6 hm6 hb6 hz6
            have HM6 := Lib.hid hm6
            have HB6 := Lib.hid (hb6 w w.heap.size (Nat.le_refl _) HB5.out)
            clear hm6 hb6 hz6
            go_wp2_with fail
            exact ⟨⟨k + 1, _, rfl, by omega, by go_num, by rw [HE.out], by rw [HE.out]; simpa using HM6.out, HB6.out⟩, by simp [intOf]; omega⟩
        · have hd0 : decide (c < 0) = false := decide_eq_false hn0
          have HE := Lib.hid (show p11K L r (k + 1) = (O ++ [x], p) from by rw [HSK.out, HFX.out, if_neg h0, if_neg (by rintro ⟨h, _⟩; exact hn0 h)])
          clear HSK HFX HP2 HP1
          cases p
          all_goals
            have hO : O.length ≤ 1048576 := by omega
            have HO := Lib.hid hO; clear hO
            go_wp2_with fail
            refine HBQ.out.mono ?_
            rintro e w1 ⟨rfl, q, rfl⟩
            have HMQ := Lib.hid (HM.out.step (below_drewN q))
            have HRQ := Lib.hid (HROW.out.step (below_drewN q))
            have HBB := Lib.hid (HB.out.trans ((below_drewN (w := wq) q).mono hsq))
            have hsq' : w.heap.size ≤ (wq.drewN q).heap.size := hsq
            go_wp2_with (at_builtin; go_must (refine append_rowA HMQ.out HRQ.out hsq' rfl rfl rfl rfl HO.out ?_))
            intro v5 w5 hm5 hb5 hz5
            have HM5 := Lib.hid hm5
            have HB5 := Lib.hid (hb5 w w.heap.size (Nat.le_refl _) HBB.out)
            clear hm5 hb5 hz5
            go_wp2_with fail
            exact ⟨⟨k + 1, _, rfl, by omega, by go_num, by rw [HE.out], by rw [HE.out]; exact HM5.out, HB5.out⟩, by simp [intOf]; omega⟩
    · obtain rfl : k = n := by omega
      have hlt' : decide (k < k) = false := by simp
      clear hM hb HST HLE HBF HFD
      generalize (p11K L r k).2 = p at *
      generalize (p11K L r k).1 = O at *
      cases p with
      | true =>
        have HV := Lib.hid (show O = R from by have := HEN.out; simpa using this.symm)
        clear HEN
        go_wp2_with fail
        go_ret
        exact ⟨_, rfl, by rw [← HV.out]; exact HM.out, HB.out⟩
      | false =>
        have HV := Lib.hid (show O ++ [r] = R from by have := HEN.out; simpa using this.symm)
        clear HEN
        have HO := Lib.hid (show O.length ≤ 1048576 by omega)
        have hrow1 : RowB B' (wq.alloc (.cells #[] 3)) (.slice a' rn cap') r := HRB.out.below (HB.out.alloc hsq _) hB'
        have HROW1 := Lib.hid hrow1
        have hq1 : wq.heap.size ≤ (wq.alloc (.cells #[] 3)).heap.size := by simp
        clear hrow1
        go_wp2_with (at_builtin; go_must (refine append_intsA (row_empty wq) hq1 HROW1.out (by rw [HRN.out]; exact HRL.out) rfl rfl rfl rfl ?_))
        intro v3 w3 hr3 hb3 hz3
        have hr3 : RowI wq.heap.size w3.heap.size w3 v3 r := by simpa using hr3
        have hb3' := hb3 wq wq.heap.size (Nat.le_refl _) ((Below.refl _ _).alloc (Nat.le_refl _) _)
        obtain ⟨xa, xn2, xc, rfl⟩ := hr3.slice3
        have HR3 := Lib.hid (hr3.mono (by omega : A ≤ wq.heap.size) (Nat.le_refl _))
        have HM3 := Lib.hid (HM.out.step hb3')
        have HB4 := Lib.hid (HB.out.trans (hb3'.mono hsq))
        have hs4 : w.heap.size ≤ w3.heap.size := HB4.out.size
        clear hb3 hz3 hr3 hb3'
        go_wp2_with (at_builtin; go_must (refine append_rowA HM3.out HR3.out hs4 rfl rfl rfl rfl HO.out ?_))
        intro v5 w5 hm5 hb5 hz5
        have HM5 := Lib.hid hm5
        have HB5 := Lib.hid (hb5 w w.heap.size (Nat.le_refl _) HB4.out)
        clear hm5 hb5 hz5
        go_wp2_with fail
        go_ret
        exact ⟨_, rfl, by rw [← HV.out]; exact HM5.out, HB5.out⟩
end Go.Proofs.Ytnlbmnielemgiaa
namespace Go.Proofs.Ytnlbmnielemgiaa
open Go.RowKit

/-- The queue: words of the element, each once, the first k of them done. -/
structure QuI (m : List (List Int)) (x : List Int) (Q : List (List Int)) (k : Nat) : Prop where
  first : Q.getD 0 [] = x
  pos : 0 < Q.length
  le : Q.length ≤ 120
  good : ∀ q ∈ Q, GoodW m x q
  nodup : Q.Nodup
  clo : ∀ j, j < k → j < Q.length → ∀ t : Nat, brB m (Q.getD j []) (t : Int) = true → brL m (Q.getD j []) (t : Int) ∈ Q
theorem getD_append_l {L : List (List Int)} {y : List Int} {j : Nat} (h : j < L.length) : (L ++ [y]).getD j [] = L.getD j [] := by
  rw [List.getD_eq_getElem?_getD, List.getD_eq_getElem?_getD, List.getElem?_append_left h]
theorem getD_memL {L : List (List Int)} {j : Nat} (h : j < L.length) : L.getD j [] ∈ L := by
  have e : L.getD j [] = L[j] := by simp [List.getD, h]
  rw [e]; exact List.getElem_mem h
theorem qu_start {m : List (List Int)} {x : List Int} (h : GoodW m x x) : QuI m x [x] 0 :=
  ⟨rfl, by simp, by simp, fun q hq => by rw [List.mem_singleton.1 hq]; exact h, by simp, fun j hj => absurd hj (Nat.not_lt_zero _)⟩
theorem qu_put {m : List (List Int)} {x y : List Int} {Q : List (List Int)} {k : Nat} (hQ : QuI m x Q k) (hk : k ≤ Q.length) (hy : GoodW m x y) (hn : y ∉ Q) (hl : Q.length < 120) : QuI m x (Q ++ [y]) k :=
  ⟨by rw [getD_append_l hQ.pos]; exact hQ.first, by simp, by simp; omega, fun q hq => by
    rcases List.mem_append.1 hq with h | h
    · exact hQ.good q h
    · rw [List.mem_singleton.1 h]; exact hy, List.nodup_append.2 ⟨hQ.nodup, by simp, fun a ha b hb => by rw [List.mem_singleton.1 hb]; exact fun e => hn (e ▸ ha)⟩, fun j hj _ t ht => by
    have hjl : j < Q.length := by omega
    rw [getD_append_l hjl] at ht ⊢
    exact List.mem_append_left _ (hQ.clo j hj hjl t ht)⟩
theorem qu_turn {m : List (List Int)} {x : List Int} {Q : List (List Int)} {k : Nat} (hQ : QuI m x Q k) (hk : k < Q.length) (hP : ∀ n, n < (brP m (Q.getD k []) (Q.getD k []).length).length → brL m (Q.getD k []) ((brP m (Q.getD k []) (Q.getD k []).length).getD n 0) ∈ Q) : QuI m x Q (k + 1) :=
  ⟨hQ.first, hQ.pos, hQ.le, hQ.good, hQ.nodup, fun j hj hjl t ht => by
    rcases Nat.lt_or_ge j k with h | h
    · exact hQ.clo j h hjl t ht
    · obtain rfl : j = k := by omega
      have hok := brB_ok ht
      obtain ⟨n, hn, e⟩ := brP_in (k := (Q.getD j []).length) (by have := hok.2.1.2; omega) ht
      have := hP n hn
      rw [e] at this; exact this⟩
/-! ### The words in their order -/
theorem p11F_cnt {r : List Int} {s : List (List Int) × Bool} {x : List Int} {k : Nat} (h : s.1.length ≤ k + (if s.2 = true then 1 else 0)) : (p11F r s x).1.length ≤ k + 1 + (if (p11F r s x).2 = true then 1 else 0) := by
  unfold p11F
  split
  · simp; split at h <;> omega
  · split
    · rename_i h1 h2
      rw [if_neg (by rw [h2.2]; simp)] at h
      simp; omega
    · simp; split at h <;> simp_all <;> omega
theorem p11K_cnt (L : List (List Int)) (r : List Int) : ∀ k, k ≤ L.length → (p11K L r k).1.length ≤ k + (if (p11K L r k).2 = true then 1 else 0)
  | 0, _ => by simp [p11K]
  | k + 1, h => by
    rw [p11K_step (by omega)]
    exact p11F_cnt (p11K_cnt L r k (by omega))
theorem put11_len (L : List (List Int)) (r : List Int) : (put11 L r).length ≤ L.length + 1 := by
  have h := p11K_cnt L r L.length (Nat.le_refl _)
  unfold put11
  split
  · rename_i h1; rw [if_pos h1] at h; exact h
  · rename_i h1; rw [if_neg h1] at h; simp; omega
theorem p11F_mem {r : List Int} {s : List (List Int) × Bool} {x y : List Int} (h : y ∈ (p11F r s x).1) : y = r ∨ y ∈ s.1 ∨ y = x := by
  unfold p11F at h
  split at h
  · rcases List.mem_append.1 h with h | h
    · exact Or.inr (Or.inl h)
    · exact Or.inr (Or.inr (List.mem_singleton.1 h))
  · split at h
    · rcases List.mem_append.1 h with h | h
      · rcases List.mem_append.1 h with h | h
        · exact Or.inr (Or.inl h)
        · exact Or.inl (List.mem_singleton.1 h)
      · exact Or.inr (Or.inr (List.mem_singleton.1 h))
    · rcases List.mem_append.1 h with h | h
      · exact Or.inr (Or.inl h)
      · exact Or.inr (Or.inr (List.mem_singleton.1 h))
theorem p11K_mem {L : List (List Int)} {r y : List Int} : ∀ k, k ≤ L.length → y ∈ (p11K L r k).1 → y = r ∨ y ∈ L
  | 0, _, h => absurd h (by simp [p11K])
  | k + 1, hk, h => by
    rw [p11K_step (by omega)] at h
    rcases p11F_mem h with h | h | h
    · exact Or.inl h
    · exact p11K_mem k (by omega) h
    · rw [h]; exact Or.inr (getD_memL (by omega))
theorem put11_mem {L : List (List Int)} {r y : List Int} (h : y ∈ put11 L r) : y = r ∨ y ∈ L := by
  unfold put11 at h
  split at h
  · exact p11K_mem _ (Nat.le_refl _) h
  · rcases List.mem_append.1 h with h | h
    · exact p11K_mem _ (Nat.le_refl _) h
    · exact Or.inl (List.mem_singleton.1 h)
/-- The first word stays the first if no word is less. -/
theorem p11F_head {r x y : List Int} {o : List (List Int)} {b : Bool} : ∃ o' b', p11F r (x :: o, b) y = (x :: o', b') := by
  unfold p11F
  split
  · exact ⟨_, _, rfl⟩
  · split
    · exact ⟨_, _, rfl⟩
    · exact ⟨_, _, rfl⟩
theorem p11_fold_head {r x : List Int} : ∀ (L : List (List Int)) (o : List (List Int)) (b : Bool), ∃ o' b', L.foldl (p11F r) (x :: o, b) = (x :: o', b')
  | [], o, b => ⟨o, b, rfl⟩
  | y :: L, o, b => by
    obtain ⟨o1, b1, e⟩ := p11F_head (r := r) (x := x) (y := y) (o := o) (b := b)
    rw [List.foldl_cons, e]
    exact p11_fold_head L o1 b1
theorem put11_head {x r : List Int} {L : List (List Int)} (h : cmpW x r ≤ 0) : ∃ L', put11 (x :: L) r = x :: L' := by
  have hc : 0 ≤ cmpW r x := by have := cmpW_neg x r; omega
  have h1 : ∃ b, p11F r ([], false) x = ([x], b) := by
    unfold p11F
    split
    · exact ⟨_, rfl⟩
    · rw [if_neg (by rintro ⟨h, _⟩; omega)]
      exact ⟨_, rfl⟩
  obtain ⟨b, e1⟩ := h1
  obtain ⟨o', b', e2⟩ := p11_fold_head (r := r) (x := x) L [] b
  have e3 : p11K (x :: L) r (x :: L).length = (x :: o', b') := by
    unfold p11K
    rw [List.take_length, List.foldl_cons, e1, e2]
  unfold put11
  rw [e3]
  cases b'
  · exact ⟨o' ++ [r], rfl⟩
  · exact ⟨o', rfl⟩
def srtK (Q : List (List Int)) (k : Nat) : List (List Int) := (Q.take k).foldl put11 []
theorem srtK_step {Q : List (List Int)} {k : Nat} (h : k < Q.length) : put11 (srtK Q k) (Q.getD k []) = srtK Q (k + 1) := by
  have e : Q.getD k [] = Q[k] := by simp [List.getD, h]
  unfold srtK
  rw [List.take_succ_eq_append_getElem h, List.foldl_append, e]; rfl
theorem srtK_len (Q : List (List Int)) : ∀ k, k ≤ Q.length → (srtK Q k).length ≤ k
  | 0, _ => by simp [srtK]
  | k + 1, h => by
    rw [← srtK_step (by omega)]
    have := put11_len (srtK Q k) (Q.getD k [])
    have := srtK_len Q k (by omega)
    omega
theorem srtK_mem (Q : List (List Int)) : ∀ k, k ≤ Q.length → ∀ y ∈ srtK Q k, y ∈ Q
  | 0, _, y, h => absurd h (by simp [srtK])
  | k + 1, hk, y, h => by
    rw [← srtK_step (by omega)] at h
    rcases put11_mem h with h | h
    · rw [h]; exact getD_memL (by omega)
    · exact srtK_mem Q k (by omega) y h
theorem srtK_head {Q : List (List Int)} {x : List Int} (h0 : Q.getD 0 [] = x) (hc : ∀ q ∈ Q, cmpW x q ≤ 0) : ∀ k, 0 < k → k ≤ Q.length → ∃ L, srtK Q k = x :: L
  | 0, h, _ => absurd h (Nat.lt_irrefl _)
  | k + 1, _, hk => by
    rw [← srtK_step (by omega)]
    rcases Nat.eq_zero_or_pos k with e | hp
    · subst e
      rw [h0]
      exact ⟨[], rfl⟩
    · obtain ⟨L, e⟩ := srtK_head h0 hc k hp (by omega)
      rw [e]
      exact put11_head (hc _ (getD_memL (by omega)))
theorem row_lit1 {A : Nat} {w : World} {rv : Value} {l : List Int} (hr : RowI A w.heap.size w rv l) (hA : A ≤ w.heap.size) : MatA A A (w.alloc (.cells #[rv] 25)) (.slice (some ⟨w.heap.size, 0, none⟩) 1 1) [l] := by
  refine ⟨[rv], World.ownsRow_lit w #[rv] 1 hA (by unfold maxLen; omega) rfl, fun j hj => ?_⟩
  obtain rfl : j = 0 := by simp at hj; omega
  exact ⟨rv, rfl, (hr.alloc _).mono (Nat.le_refl _) (by simp)⟩
end Go.Proofs.Ytnlbmnielemgiaa
namespace Go.Proofs.Ytnlbmnielemgiaa
open Go.RowKit

theorem ownR_nil {w w' : World} (_h : Below w.heap.size w w') : OwnR w.heap.size (w'.alloc (.cells #[] 25)).heap.size (w'.alloc (.cells #[] 25)) (.slice (some ⟨w'.heap.size, 0, none⟩) 0 0) [] :=
  ⟨fun _ _ => Or.inl ⟨rfl, _, _, rfl⟩, Nat.le_refl _⟩
open Classical in
theorem fin_isC {m : List (List Int)} (h : finB m = true) : IsC m := (of_decide_eq_true h).1
noncomputable def posL (m : List (List Int)) : List (List Int) := if finB m = true then rutL m 12 else []
theorem posL_yes {m : List (List Int)} (h : finB m = true) : posL m = rutL m 12 := if_pos h
theorem posL_no {m : List (List Int)} (h : finB m = false) : posL m = [] := by unfold posL; rw [h]; rfl
theorem posL_small (m : List (List Int)) : szSum (posL m) ≤ 1048576 := by
  cases h : finB m with
  | true => rw [posL_yes h]; exact rutL_small _ _
  | false => rw [posL_no h]; decide
/-- The last of a list. -/
noncomputable def higB (m : List (List Int)) : Bool := finB m && connB (partsV m).length
noncomputable def higL (m : List (List Int)) : List Int := if higB m = true then (posL m).getD ((posL m).length - 1) [] else []
theorem higL_yes {m : List (List Int)} (h : higB m = true) : higL m = (posL m).getD ((posL m).length - 1) [] := if_pos h
theorem higL_no {m : List (List Int)} (h : higB m = false) : higL m = [] := by unfold higL; rw [h]; rfl
theorem posL_low (m : List (List Int)) : (posL m).length ≤ 28561 ∧ ∀ r ∈ posL m, r.length ≤ 4 := by
  cases h : finB m with
  | true => rw [posL_yes h]; exact rutL_low _ _
  | false => rw [posL_no h]; exact ⟨by simp, fun r hr => absurd hr (by simp)⟩
theorem higL_len (m : List (List Int)) : (higL m).length ≤ 4 := by
  cases h : higB m with
  | true => rw [higL_yes h]; exact getD_le (posL_low m).2 _
  | false => rw [higL_no h]; simp
theorem isRoots_ne {m : List (List Int)} {h : Int} {L : List (List Int)} (hI : IsC m) (hL : IsRoots m h L) : 0 < L.length :=
  List.length_pos_of_mem ((hL.2 _).2 (.base 0 (by have := hI.2.2.1; omega)))
end Go.Proofs.Ytnlbmnielemgiaa
