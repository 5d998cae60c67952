/-
  BondOf of the model and of the program: what each call returns.
-/
import Derived.Test.YtcmnkhblnlmfpaaGreatDoorFC02
import Derived.Test.YtcmnkhblnlmfpaaGreatDoorFC03
namespace Go.Proofs.YtcmnkhblnlmfpaaGreatDoor
open Go.RowKit

theorem wrap_prod {x y : Int} (hx : -3 ≤ x ∧ x ≤ 0) (hy : -3 ≤ y ∧ y ≤ 0) : wrap64 (x * y) = x * y := by
  have h : 0 ≤ x * y ∧ x * y ≤ 9 := by
    have hx' : x = 0 ∨ x = -1 ∨ x = -2 ∨ x = -3 := four hx
    rcases hx' with rfl | rfl | rfl | rfl <;> omega
  exact IntWalk.wrap64_in _ ⟨by omega, by omega⟩
def ptB (i : Int) (n : Nat) : Bool := decide (0 ≤ i ∧ i ≤ (n : Int) - 1)
theorem ptB_yes {i : Int} {n : Nat} (h : 0 ≤ i ∧ i ≤ (n : Int) - 1) : ptB i n = true := decide_eq_true h
theorem ptB_no {i : Int} {n : Nat} (h : ¬ (0 ≤ i ∧ i ≤ (n : Int) - 1)) : ptB i n = false := decide_eq_false h
set_option maxHeartbeats 400000 in
theorem pt_any (a : Option Addr) (n cap : Nat) (i : Int) (w : World) (_hl : n ≤ 2 ^ 63 - 1) :
    Calls Tryz.prog 57 #[.slice a n cap, .int .i64 i] w fun e w' => e = .returned (.bool (ptB i n)) ∧ w = w' := by
  by_cases h : 0 ≤ i
  · have h1 : decide (0 ≤ i) = true := decide_eq_true h
    by_cases h2 : i ≤ (n : Int) - 1
    · have HV := Lib.hid (ptB_yes ⟨h, h2⟩)
      have h3 : decide (i < (n : Int)) = true := decide_eq_true (by omega)
      go_enter Tryz.func57, Tryz.ntmps57
      go_wp2_with fail
      go_ret
      exact ⟨ret_boolean HV.out.symm, rfl⟩
    · have HV := Lib.hid (ptB_no (i := i) (n := n) (fun x => h2 x.2))
      have h3 : decide (i < (n : Int)) = false := decide_eq_false (by omega)
      go_enter Tryz.func57, Tryz.ntmps57
      go_wp2_with fail
      go_ret
      exact ⟨ret_boolean HV.out.symm, rfl⟩
  · have HV := Lib.hid (ptB_no (i := i) (n := n) (fun x => h x.1))
    have h1 : decide (0 ≤ i) = false := decide_eq_false h
    go_enter Tryz.func57, Tryz.ntmps57
    go_wp2_with fail
    go_ret
    exact ⟨ret_boolean HV.out.symm, rfl⟩
theorem pt_c (a : Option Addr) (n cap : Nat) (i : Int) (c : Bool) (hc : ptB i n = c) (w : World) (hl : n ≤ 2 ^ 63 - 1) :
    Calls Tryz.prog 57 #[.slice a n cap, .int .i64 i] w fun e w' => e = .returned (.bool c) ∧ w = w' :=
  (pt_any a n cap i w hl).mono fun e w' ⟨he, hw⟩ => ⟨by rw [he]; exact ret_boolean hc, hw⟩
theorem icm_0 (B : Nat) (v : Value) (m : List (List Int)) (c : Bool) (hc : isB m = c) (w : World) (h : MatB B w v m) (hf : RowsFit m) :
    Calls Tryz.prog 37 #[v] w fun e w' => e = .returned (.bool c) ∧ ∃ m, w' = w.drewN m :=
  (icm_any B v m w h hf).mono fun e w' ⟨he, hw⟩ => ⟨by rw [he]; exact ret_boolean hc, hw⟩

set_option maxHeartbeats 4000000 in
set_option maxRecDepth 100000 in
theorem bonds_walk {b off rb roff rcap rb' roff' rcap' n cap p r : Nat} {w : World} {x y k z : Int}
    (hq : Calls Tryz.prog 12 #[.slice (some ⟨b, off, none⟩) n cap] w fun e w' => e = .returned (.bool true) ∧ ∃ m, w' = w.drewN m)
    (hi : inB (p : Int) 0 ((n : Int) - 1) = true) (hj : inB (r : Int) 0 ((n : Int) - 1) = true) (hl : n ≤ 2 ^ 63 - 1) (hp : p < n) (hr : r < n) (hne : ((p : Int) == (r : Int)) = false)
    (hc1 : w.cell? ⟨b, off + p, none⟩ = some (.slice (some ⟨rb, roff, none⟩) n rcap)) (hx1 : w.cell? ⟨rb, roff + r, none⟩ = some (.int .i64 x))
    (hc2 : w.cell? ⟨b, off + r, none⟩ = some (.slice (some ⟨rb', roff', none⟩) n rcap')) (hy1 : w.cell? ⟨rb', roff' + p, none⟩ = some (.int .i64 y))
    (hz : wrap64 (x * y) = z) (hk : k = bondP z) :
    Calls Tryz.prog 14 #[.slice (some ⟨b, off, none⟩) n cap, .int .i64 p, .int .i64 r] w fun e w' => e = .returned (.int .i64 k) ∧ ∃ q, w' = w.drewN q := by
  have HQ := Lib.hid hq; clear hq
  have HI := Lib.hid hi; clear hi
  have HJ := Lib.hid hj; clear hj
  have HV := Lib.hid hk; clear hk
  have HZ := Lib.hid hz; clear hz
  have H1 := Lib.hid hc1; clear hc1
  have H2 := Lib.hid hc2; clear hc2
  have H3 := Lib.hid hx1; clear hx1
  have H4 := Lib.hid hy1; clear hy1
  have H5 := Lib.hid hp; clear hp
  have H6 := Lib.hid hr; clear hr
  go_enter Tryz.func14, Tryz.ntmps14
  go_wp2_with fail
  refine HQ.out.mono ?_; rintro e w' ⟨rfl, mm, rfl⟩
  go_wp2_with fail
  refine (l1in_c _ _ _ true HI.out _).mono ?_; rintro e w' ⟨rfl, rfl⟩
  go_wp2_with fail
  have HL := Lib.hid hl; clear hl
  refine (l1in_c _ _ _ true HJ.out _).mono ?_; rintro e w' ⟨rfl, rfl⟩
  go_wp2_with fail
  have hl := HL.out
  have hp := H5.out
  have hr := H6.out
  have hc1 := H1.out
  have hc2 := H2.out
  have hx1 := H3.out
  have hy1 := H4.out
  go_quiet (fail)
  rw [HZ.out]
  clear hc1 hc2 hx1 hy1 hp hr
  rcases (show z = 0 ∨ z = 1 ∨ z = 2 ∨ z = 3 ∨ ((z == 0) = false ∧ (z == 1) = false ∧ (z == 2) = false ∧ (z == 3) = false) by
    by_cases h0 : z = 0
    · exact Or.inl h0
    · by_cases h1 : z = 1
      · exact Or.inr (Or.inl h1)
      · by_cases h2 : z = 2
        · exact Or.inr (Or.inr (Or.inl h2))
        · by_cases h3 : z = 3
          · exact Or.inr (Or.inr (Or.inr (Or.inl h3)))
          · exact Or.inr (Or.inr (Or.inr (Or.inr ⟨beq_eq_false_iff_ne.2 h0, beq_eq_false_iff_ne.2 h1, beq_eq_false_iff_ne.2 h2, beq_eq_false_iff_ne.2 h3⟩)))) with rfl | rfl | rfl | rfl | ⟨g0, g1, g2, g3⟩
  · go_wp2_with fail
    go_ret
    exact ⟨ret_int (HV.out.trans rfl).symm, _, rfl⟩
  · go_wp2_with fail
    go_ret
    exact ⟨ret_int (HV.out.trans rfl).symm, _, rfl⟩
  · go_wp2_with fail
    go_ret
    exact ⟨ret_int (HV.out.trans rfl).symm, _, rfl⟩
  · go_wp2_with fail
    go_ret
    exact ⟨ret_int (HV.out.trans rfl).symm, _, rfl⟩
  · have hb : bondP z = 0 := by
      unfold bondP
      rw [beq_eq_false_iff_ne] at g0 g1 g2 g3
      rw [if_neg g0, if_neg g1, if_neg g2, if_neg g3]
    have HB := Lib.hid hb; clear hb
    go_wp2_with fail
    go_ret
    exact ⟨ret_int (HV.out.trans HB.out).symm, _, rfl⟩

set_option maxHeartbeats 4000000 in
set_option maxRecDepth 100000 in
theorem bondi_walk {b off rb roff rcap rb' roff' rcap' n cap p r : Nat} {w : World} {x y k z : Int}
    (hq : Calls Tryz.prog 37 #[.slice (some ⟨b, off, none⟩) n cap] w fun e w' => e = .returned (.bool true) ∧ ∃ m, w' = w.drewN m)
    (hi : ptB (p : Int) n = true) (hj : ptB (r : Int) n = true) (hl : n ≤ 2 ^ 63 - 1) (hp : p < n) (hr : r < n) (hne : ((p : Int) == (r : Int)) = false)
    (hc1 : w.cell? ⟨b, off + p, none⟩ = some (.slice (some ⟨rb, roff, none⟩) n rcap)) (hx1 : w.cell? ⟨rb, roff + r, none⟩ = some (.int .i64 x))
    (hc2 : w.cell? ⟨b, off + r, none⟩ = some (.slice (some ⟨rb', roff', none⟩) n rcap')) (hy1 : w.cell? ⟨rb', roff' + p, none⟩ = some (.int .i64 y))
    (hz : wrap64 (x * y) = z) (hk : k = bondP z) :
    Calls Tryz.prog 43 #[.slice (some ⟨b, off, none⟩) n cap, .int .i64 p, .int .i64 r] w fun e w' => e = .returned (.int .i64 k) ∧ ∃ q, w' = w.drewN q := by
  have HQ := Lib.hid hq; clear hq
  have HI := Lib.hid hi; clear hi
  have HJ := Lib.hid hj; clear hj
  have HV := Lib.hid hk; clear hk
  have HZ := Lib.hid hz; clear hz
  have H1 := Lib.hid hc1; clear hc1
  have H2 := Lib.hid hc2; clear hc2
  have H3 := Lib.hid hx1; clear hx1
  have H4 := Lib.hid hy1; clear hy1
  have H5 := Lib.hid hp; clear hp
  have H6 := Lib.hid hr; clear hr
  go_enter Tryz.func43, Tryz.ntmps43
  go_wp2_with fail
  refine HQ.out.mono ?_; rintro e w' ⟨rfl, mm, rfl⟩
  go_wp2_with fail
  refine (pt_c _ _ _ _ true HI.out _ hl).mono ?_; rintro e w' ⟨rfl, rfl⟩
  go_wp2_with fail
  refine (pt_c _ _ _ _ true HJ.out _ hl).mono ?_; rintro e w' ⟨rfl, rfl⟩
  have HL := Lib.hid hl; clear hl
  go_wp2_with fail
  have hl := HL.out
  have hp := H5.out
  have hr := H6.out
  have hc1 := H1.out
  have hc2 := H2.out
  have hx1 := H3.out
  have hy1 := H4.out
  go_quiet (fail)
  rw [HZ.out]
  clear hc1 hc2 hx1 hy1 hp hr
  rcases (show z = 0 ∨ z = 1 ∨ z = 2 ∨ z = 3 ∨ ((z == 0) = false ∧ (z == 1) = false ∧ (z == 2) = false ∧ (z == 3) = false) by
    by_cases h0 : z = 0
    · exact Or.inl h0
    · by_cases h1 : z = 1
      · exact Or.inr (Or.inl h1)
      · by_cases h2 : z = 2
        · exact Or.inr (Or.inr (Or.inl h2))
        · by_cases h3 : z = 3
          · exact Or.inr (Or.inr (Or.inr (Or.inl h3)))
          · exact Or.inr (Or.inr (Or.inr (Or.inr ⟨beq_eq_false_iff_ne.2 h0, beq_eq_false_iff_ne.2 h1, beq_eq_false_iff_ne.2 h2, beq_eq_false_iff_ne.2 h3⟩)))) with rfl | rfl | rfl | rfl | ⟨g0, g1, g2, g3⟩
  · go_wp2_with fail
    go_ret
    exact ⟨ret_int (HV.out.trans rfl).symm, _, rfl⟩
  · go_wp2_with fail
    go_ret
    exact ⟨ret_int (HV.out.trans rfl).symm, _, rfl⟩
  · go_wp2_with fail
    go_ret
    exact ⟨ret_int (HV.out.trans rfl).symm, _, rfl⟩
  · go_wp2_with fail
    go_ret
    exact ⟨ret_int (HV.out.trans rfl).symm, _, rfl⟩
  · have hb : bondP z = 0 := by
      unfold bondP
      rw [beq_eq_false_iff_ne] at g0 g1 g2 g3
      rw [if_neg g0, if_neg g1, if_neg g2, if_neg g3]
    have HB := Lib.hid hb; clear hb
    go_wp2_with fail
    go_ret
    exact ⟨ret_int (HV.out.trans HB.out).symm, _, rfl⟩

set_option maxHeartbeats 4000000 in
set_option maxRecDepth 100000 in
theorem bonds_any (B : Nat) (v : Value) (m : List (List Int)) (i j : Int) (w : World) (h : MatB B w v m) (hf : RowsFit m) :
    Calls Tryz.prog 14 #[v, .int .i64 i, .int .i64 j] w fun e w' => e = .returned (.int .i64 (bond m i j)) ∧ ∃ q, w' = w.drewN q := by
  have hl := hf.1
  unfold maxLen at hl
  obtain ⟨a, cap, rfl⟩ := h.slice
  by_cases hI : IsC m
  · have HQ := Lib.hid (isc_0 B _ m true (isB_yes hI) w h hf)
    by_cases hi : 0 ≤ i ∧ i ≤ (m.length : Int) - 1
    · have HI := Lib.hid (inB_yes hi)
      by_cases hj : 0 ≤ j ∧ j ≤ (m.length : Int) - 1
      · have HJ := Lib.hid (inB_yes hj)
        obtain ⟨p, rfl⟩ := Int.eq_ofNat_of_zero_le hi.1
        obtain ⟨r, rfl⟩ := Int.eq_ofNat_of_zero_le hj.1
        have hp : p < m.length := by omega
        have hr : r < m.length := by omega
        by_cases hpr : p = r
        · subst hpr
          have hv := bond_eq hI hp
          have HV := Lib.hid hv; clear hv hI h hf hi hj
          generalize m.length = n at *
          go_enter Tryz.func14, Tryz.ntmps14
          go_wp2_with fail
          refine HQ.out.mono ?_; rintro e w' ⟨rfl, mm, rfl⟩
          go_wp2_with fail
          refine (l1in_c _ _ _ true HI.out _).mono ?_; rintro e w' ⟨rfl, rfl⟩
          go_wp2_with fail
          refine (l1in_c _ _ _ true HJ.out _).mono ?_; rintro e w' ⟨rfl, rfl⟩
          go_wp2_with fail
          go_ret
          exact ⟨ret_int HV.out.symm, _, rfl⟩
        · have hv := bond_ne hI hp hr hpr
          have hx := isc_in hI hp hr hpr
          have hy := isc_in hI hr hp (fun e => hpr e.symm)
          obtain ⟨b, off, rb, roff, rcap, rfl, hc1, hx1⟩ := h.entry hI.1 hp hr
          obtain ⟨b', off', rb', roff', rcap', hab, hc2, hy1⟩ := h.entry hI.1 hr hp
          injection hab with hab
          injection hab with hab1 hab2
          subst hab1
          subst hab2
          have hne : ((p : Int) == (r : Int)) = false := by rw [beq_eq_false_iff_ne]; omega
          exact bonds_walk HQ.out HI.out HJ.out hl hp hr hne hc1 hx1 hc2 hy1 (wrap_prod hx hy) hv
      · have HJ := Lib.hid (inB_no hj)
        have hv := bond_no (i := i) (j := j) (fun x => hj x.2.2)
        have HV := Lib.hid hv; clear hv hI h hf hi hj
        generalize m.length = n at *
        go_enter Tryz.func14, Tryz.ntmps14
        go_wp2_with fail
        refine HQ.out.mono ?_; rintro e w' ⟨rfl, mm, rfl⟩
        go_wp2_with fail
        refine (l1in_c _ _ _ true HI.out _).mono ?_; rintro e w' ⟨rfl, rfl⟩
        go_wp2_with fail
        refine (l1in_c _ _ _ false HJ.out _).mono ?_; rintro e w' ⟨rfl, rfl⟩
        go_wp2_with fail
        go_ret
        exact ⟨ret_int HV.out.symm, _, rfl⟩
    · have HI := Lib.hid (inB_no hi)
      have hv := bond_no (i := i) (j := j) (fun x => hi x.2.1)
      have HV := Lib.hid hv; clear hv hI h hf hi
      generalize m.length = n at *
      go_enter Tryz.func14, Tryz.ntmps14
      go_wp2_with fail
      refine HQ.out.mono ?_; rintro e w' ⟨rfl, mm, rfl⟩
      go_wp2_with fail
      refine (l1in_c _ _ _ false HI.out _).mono ?_; rintro e w' ⟨rfl, rfl⟩
      go_wp2_with fail
      go_ret
      exact ⟨ret_int HV.out.symm, _, rfl⟩
  · have HQ := Lib.hid (isc_0 B _ m false (isB_no hI) w h hf)
    have hv := bond_no (i := i) (j := j) (fun x => hI x.1)
    have HV := Lib.hid hv; clear hv hI h hf
    generalize m.length = n at *
    go_enter Tryz.func14, Tryz.ntmps14
    go_wp2_with fail
    refine HQ.out.mono ?_; rintro e w' ⟨rfl, mm, rfl⟩
    go_wp2_with fail
    go_ret
    exact ⟨ret_int HV.out.symm, _, rfl⟩

set_option maxHeartbeats 4000000 in
set_option maxRecDepth 100000 in
theorem bondi_any (B : Nat) (v : Value) (m : List (List Int)) (i j : Int) (w : World) (h : MatB B w v m) (hf : RowsFit m) :
    Calls Tryz.prog 43 #[v, .int .i64 i, .int .i64 j] w fun e w' => e = .returned (.int .i64 (bond m i j)) ∧ ∃ q, w' = w.drewN q := by
  have hl := hf.1
  unfold maxLen at hl
  obtain ⟨a, cap, rfl⟩ := h.slice
  by_cases hI : IsC m
  · have HQ := Lib.hid (icm_0 B _ m true (isB_yes hI) w h hf)
    by_cases hi : 0 ≤ i ∧ i ≤ (m.length : Int) - 1
    · have HI := Lib.hid (ptB_yes hi)
      by_cases hj : 0 ≤ j ∧ j ≤ (m.length : Int) - 1
      · have HJ := Lib.hid (ptB_yes hj)
        obtain ⟨p, rfl⟩ := Int.eq_ofNat_of_zero_le hi.1
        obtain ⟨r, rfl⟩ := Int.eq_ofNat_of_zero_le hj.1
        have hp : p < m.length := by omega
        have hr : r < m.length := by omega
        by_cases hpr : p = r
        · subst hpr
          have hv := bond_eq hI hp
          have HV := Lib.hid hv; clear hv hI h hf hi hj
          generalize m.length = n at *
          go_enter Tryz.func43, Tryz.ntmps43
          go_wp2_with fail
          refine HQ.out.mono ?_; rintro e w' ⟨rfl, mm, rfl⟩
          go_wp2_with fail
          refine (pt_c _ _ _ _ true HI.out _ hl).mono ?_; rintro e w' ⟨rfl, rfl⟩
          go_wp2_with fail
          refine (pt_c _ _ _ _ true HJ.out _ hl).mono ?_; rintro e w' ⟨rfl, rfl⟩
          go_wp2_with fail
          go_ret
          exact ⟨ret_int HV.out.symm, _, rfl⟩
        · have hv := bond_ne hI hp hr hpr
          have hx := isc_in hI hp hr hpr
          have hy := isc_in hI hr hp (fun e => hpr e.symm)
          obtain ⟨b, off, rb, roff, rcap, rfl, hc1, hx1⟩ := h.entry hI.1 hp hr
          obtain ⟨b', off', rb', roff', rcap', hab, hc2, hy1⟩ := h.entry hI.1 hr hp
          injection hab with hab
          injection hab with hab1 hab2
          subst hab1
          subst hab2
          have hne : ((p : Int) == (r : Int)) = false := by rw [beq_eq_false_iff_ne]; omega
          exact bondi_walk HQ.out HI.out HJ.out hl hp hr hne hc1 hx1 hc2 hy1 (wrap_prod hx hy) hv
      · have HJ := Lib.hid (ptB_no hj)
        have hv := bond_no (i := i) (j := j) (fun x => hj x.2.2)
        have HV := Lib.hid hv; clear hv hI h hf hi hj
        generalize m.length = n at *
        go_enter Tryz.func43, Tryz.ntmps43
        go_wp2_with fail
        refine HQ.out.mono ?_; rintro e w' ⟨rfl, mm, rfl⟩
        go_wp2_with fail
        refine (pt_c _ _ _ _ true HI.out _ hl).mono ?_; rintro e w' ⟨rfl, rfl⟩
        go_wp2_with fail
        refine (pt_c _ _ _ _ false HJ.out _ hl).mono ?_; rintro e w' ⟨rfl, rfl⟩
        go_wp2_with fail
        go_ret
        exact ⟨ret_int HV.out.symm, _, rfl⟩
    · have HI := Lib.hid (ptB_no hi)
      have hv := bond_no (i := i) (j := j) (fun x => hi x.2.1)
      have HV := Lib.hid hv; clear hv hI h hf hi
      generalize m.length = n at *
      go_enter Tryz.func43, Tryz.ntmps43
      go_wp2_with fail
      refine HQ.out.mono ?_; rintro e w' ⟨rfl, mm, rfl⟩
      go_wp2_with fail
      refine (pt_c _ _ _ _ false HI.out _ hl).mono ?_; rintro e w' ⟨rfl, rfl⟩
      go_wp2_with fail
      go_ret
      exact ⟨ret_int HV.out.symm, _, rfl⟩
  · have HQ := Lib.hid (icm_0 B _ m false (isB_no hI) w h hf)
    have hv := bond_no (i := i) (j := j) (fun x => hI x.1)
    have HV := Lib.hid hv; clear hv hI h hf
    generalize m.length = n at *
    go_enter Tryz.func43, Tryz.ntmps43
    go_wp2_with fail
    refine HQ.out.mono ?_; rintro e w' ⟨rfl, mm, rfl⟩
    go_wp2_with fail
    go_ret
    exact ⟨ret_int HV.out.symm, _, rfl⟩

theorem bonds_b (B : Nat) (v : Value) (m : List (List Int)) (i j : Int) (w : World) (h : MatB B w v m) (hf : RowsFit m) :
    Calls Tryz.prog 14 #[v, .int .i64 i, .int .i64 j] w fun e w' => e = .returned (.int .i64 (bond m i j)) ∧ Below w.heap.size w w' :=
  (bonds_any B v m i j w h hf).mono fun e w' ⟨h1, q, h2⟩ => ⟨h1, by rw [h2]; exact below_drewN q⟩
theorem bondi_b (B : Nat) (v : Value) (m : List (List Int)) (i j : Int) (w : World) (h : MatB B w v m) (hf : RowsFit m) :
    Calls Tryz.prog 43 #[v, .int .i64 i, .int .i64 j] w fun e w' => e = .returned (.int .i64 (bond m i j)) ∧ Below w.heap.size w w' :=
  (bondi_any B v m i j w h hf).mono fun e w' ⟨h1, q, h2⟩ => ⟨h1, by rw [h2]; exact below_drewN q⟩
end Go.Proofs.YtcmnkhblnlmfpaaGreatDoor
