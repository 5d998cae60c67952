/-
  Weights: what the model's FormatWeight returns.
  BondOf of the model and of the program: what each call returns.
  Weights: what the program's reflection in place returns.
-/
import Derived.Lib.ItoaLen
import Derived.Test.YtfjeghalkmkgoaaGreatDoorFW17
import Derived.Test.YtfjeghalkmkgoaaGreatDoorFW05
import Derived.Test.YtfjeghalkmkgoaaGreatDoorFW06
import Derived.Deep.RegionLaw
import Derived.Test.YtfjeghalkmkgoaaGreatDoorFW07
import Derived.Test.YtfjeghalkmkgoaaGreatDoorFW15
namespace Go.Proofs.YtfjeghalkmkgoaaGreatDoor
open Go.RowKit

/-- Numbers that an int holds. -/
def Fits (l : List Int) : Prop := ∀ x ∈ l, -9223372036854775808 ≤ x ∧ x ≤ 9223372036854775807
theorem Fits.getD {l : List Int} (h : Fits l) (j : Nat) : -9223372036854775808 ≤ l.getD j 0 ∧ l.getD j 0 ≤ 9223372036854775807 := by
  by_cases hj : j < l.length
  · have e : l.getD j 0 = l[j] := by simp [List.getD, hj]
    rw [e]; exact h _ (List.getElem_mem hj)
  · have e : l.getD j 0 = 0 := by simp [List.getD, hj]
    rw [e]; omega
set_option maxHeartbeats 4000000 in
set_option maxRecDepth 100000 in
theorem fmtws_any (B : Nat) (v : Value) (l : List Int) (w : World) (h : RowB B w v l) (hB : B ≤ w.heap.size) (hl : l.length ≤ 1048577) (hfit : Fits l) :
    Calls Tryz.prog 24 #[v] w fun e w' => e = .returned (.string ⟨(rowT l).toArray⟩) ∧ Below w.heap.size w w' := by
  obtain ⟨a, cap, rfl⟩ := h.slice
  have HR := Lib.hid h; clear h
  have HE := Lib.hid (fun j => hfit.getD j)
  have HSTE := Lib.hid (fun j (hj : j < l.length) => rowT_step l j hj)
  have HALL : Hid (Lib.join ((l.take l.length).map Lib.itoa) [44] = rowT l) := Lib.hid (by rw [List.take_length]; rfl)
  clear hfit
  generalize hn : l.length = n at *
  have HN := Lib.hid hn; clear hn
  go_enter Tryz.func24, Tryz.ntmps24
  go_wp2_with fail
  go_loopw [3, 4] (fun sv i wr => ∃ (j : Nat) (t : ByteArray) (wq : World), wq = wr ∧ j ≤ n ∧ i = .int .i64 j ∧ sv = .string t ∧ Hid (t.data.toList = Lib.join ((l.take j).map Lib.itoa) [44]) ∧ t.size ≤ 22 * j ∧ Below w.heap.size w wq) (fun _ i _ => n - (intOf i).toNat)
  case atStart => exact ⟨0, ⟨#[]⟩, _, rfl, Nat.zero_le _, rfl, rfl, by show Hid _; unfold Hid; simp [Lib.join_nil], Nat.le_refl _, Below.refl _ _⟩
  case round =>
    obtain ⟨j, t, wq, rfl, hj, rfl, rfl, HTT, hts, hb⟩ := hrel
    have HB := Lib.hid hb; clear hb
    by_cases hjn : j < n
    · obtain ⟨b, off, rfl, hbb, hx⟩ := (HR.out.below HB.out hB).getD hjn
      have hen := HE.out j
      have hst := HSTE.out j hjn
      generalize l.getD j 0 = x at *
      have hlx := Lib.itoa_length_le x hen.1 hen.2
      obtain ⟨t1, ht1, ht2, hcase1⟩ : ∃ t1 : ByteArray, t1.data.toList = (if j = 0 then [] else Lib.join ((l.take j).map Lib.itoa) [44] ++ [44]) ∧ t1.size ≤ 22 * j + 1 ∧ ((0 < j ∧ t1 = t ++ ⟨#[44]⟩) ∨ (¬ 0 < j ∧ t1 = t)) := by
        by_cases h1 : 0 < j
        · refine ⟨t ++ ⟨#[44]⟩, ?_, by rw [ba_app_size, ba_one]; omega, Or.inl ⟨h1, rfl⟩⟩
          rw [str_app, HTT.out, if_neg (by omega)]
        · refine ⟨t, ?_, by omega, Or.inr ⟨h1, rfl⟩⟩
          obtain rfl : j = 0 := by omega
          rw [HTT.out]; simp [Lib.join_nil]
      have hfin : (t1 ++ ⟨(Lib.itoa x).toArray⟩).data.toList = Lib.join ((l.take (j + 1)).map Lib.itoa) [44] := by
        rw [str_app, ht1, hst]
      have hsx : (⟨(Lib.itoa x).toArray⟩ : ByteArray).size ≤ 21 := by rw [ba_list]; exact hlx
      have hfs : (t1 ++ ⟨(Lib.itoa x).toArray⟩).size ≤ 22 * (j + 1) := by
        rw [ba_app_size]
        omega
      have HFIN := Lib.hid hfin
      have HFS := Lib.hid hfs
      have HFM := Lib.hid (fun (wx : World) => fmts_any x wx hen.1 hen.2)
      clear hfin hfs hst ht1 hlx hen
      rcases hcase1 with ⟨h1, he1⟩ | ⟨h1, he1⟩
      all_goals
        have HEQ1 := Lib.hid he1.symm
        clear he1
        go_wp2_with fail
        try rw [HEQ1.out]
        refine (HFM.out _).mono ?_
        rintro e w5 ⟨rfl, hb5⟩
        have HB5 := Lib.hid (HB.out.trans (hb5.mono HB.out.size))
        clear hb5
        generalize (⟨(Lib.itoa x).toArray⟩ : ByteArray) = y at *
        go_wp2_with fail
        try rw [HEQ1.out]
        exact ⟨⟨j + 1, _, _, rfl, by omega, by go_num, rfl, HFIN.out, HFS.out, HB5.out⟩, by simp [intOf]; omega⟩
    · obtain rfl : j = n := by omega
      go_wp2_with fail
      go_ret
      refine ⟨?_, HB.out⟩
      exact congrArg (fun x => Ending.returned (.string x)) (str_ofl (HTT.out.trans HALL.out))
end Go.Proofs.YtfjeghalkmkgoaaGreatDoor
namespace Go.Proofs.YtfjeghalkmkgoaaGreatDoor
open Go.RowKit

theorem wrap_prod {x y : Int} (hx : -3 ≤ x ∧ x ≤ 0) (hy : -3 ≤ y ∧ y ≤ 0) : wrap64 (x * y) = x * y := by
  have h : 0 ≤ x * y ∧ x * y ≤ 9 := by
    have hx' : x = 0 ∨ x = -1 ∨ x = -2 ∨ x = -3 := four hx
    rcases hx' with rfl | rfl | rfl | rfl <;> omega
  exact IntWalk.wrap64_in _ ⟨by omega, by omega⟩
def ptB (i : Int) (n : Nat) : Bool := decide (0 ≤ i ∧ i ≤ (n : Int) - 1)
theorem ptB_yes {i : Int} {n : Nat} (h : 0 ≤ i ∧ i ≤ (n : Int) - 1) : ptB i n = true := decide_eq_true h
theorem ptB_no {i : Int} {n : Nat} (h : ¬ (0 ≤ i ∧ i ≤ (n : Int) - 1)) : ptB i n = false := decide_eq_false h
set_option maxHeartbeats 400000 in
theorem pt_any (a : Option Addr) (n cap : Nat) (i : Int) (w : World) (_hl : n ≤ 2 ^ 63 - 1) :
    Calls Tryz.prog 52 #[.slice a n cap, .int .i64 i] w fun e w' => e = .returned (.bool (ptB i n)) ∧ w = w' := by
  by_cases h : 0 ≤ i
  · have h1 : decide (0 ≤ i) = true := decide_eq_true h
    by_cases h2 : i ≤ (n : Int) - 1
    · have HV := Lib.hid (ptB_yes ⟨h, h2⟩)
      have h3 : decide (i < (n : Int)) = true := decide_eq_true (by omega)
      go_enter Tryz.func52, Tryz.ntmps52
      go_wp2_with fail
      go_ret
      exact ⟨ret_boolean HV.out.symm, rfl⟩
    · have HV := Lib.hid (ptB_no (i := i) (n := n) (fun x => h2 x.2))
      have h3 : decide (i < (n : Int)) = false := decide_eq_false (by omega)
      go_enter Tryz.func52, Tryz.ntmps52
      go_wp2_with fail
      go_ret
      exact ⟨ret_boolean HV.out.symm, rfl⟩
  · have HV := Lib.hid (ptB_no (i := i) (n := n) (fun x => h x.1))
    have h1 : decide (0 ≤ i) = false := decide_eq_false h
    go_enter Tryz.func52, Tryz.ntmps52
    go_wp2_with fail
    go_ret
    exact ⟨ret_boolean HV.out.symm, rfl⟩
theorem pt_c (a : Option Addr) (n cap : Nat) (i : Int) (c : Bool) (hc : ptB i n = c) (w : World) (hl : n ≤ 2 ^ 63 - 1) :
    Calls Tryz.prog 52 #[.slice a n cap, .int .i64 i] w fun e w' => e = .returned (.bool c) ∧ w = w' :=
  (pt_any a n cap i w hl).mono fun e w' ⟨he, hw⟩ => ⟨by rw [he]; exact ret_boolean hc, hw⟩
theorem icm_0 (B : Nat) (v : Value) (m : List (List Int)) (c : Bool) (hc : isB m = c) (w : World) (h : MatB B w v m) (hf : RowsFit m) :
    Calls Tryz.prog 36 #[v] w fun e w' => e = .returned (.bool c) ∧ ∃ m, w' = w.drewN m :=
  (icm_any B v m w h hf).mono fun e w' ⟨he, hw⟩ => ⟨by rw [he]; exact ret_boolean hc, hw⟩

set_option maxHeartbeats 4000000 in
set_option maxRecDepth 100000 in
theorem bonds_walk {b off rb roff rcap rb' roff' rcap' n cap p r : Nat} {w : World} {x y k z : Int}
    (hq : Calls Tryz.prog 11 #[.slice (some ⟨b, off, none⟩) n cap] w fun e w' => e = .returned (.bool true) ∧ ∃ m, w' = w.drewN m)
    (hi : inB (p : Int) 0 ((n : Int) - 1) = true) (hj : inB (r : Int) 0 ((n : Int) - 1) = true) (hl : n ≤ 2 ^ 63 - 1) (hp : p < n) (hr : r < n) (hne : ((p : Int) == (r : Int)) = false)
    (hc1 : w.cell? ⟨b, off + p, none⟩ = some (.slice (some ⟨rb, roff, none⟩) n rcap)) (hx1 : w.cell? ⟨rb, roff + r, none⟩ = some (.int .i64 x))
    (hc2 : w.cell? ⟨b, off + r, none⟩ = some (.slice (some ⟨rb', roff', none⟩) n rcap')) (hy1 : w.cell? ⟨rb', roff' + p, none⟩ = some (.int .i64 y))
    (hz : wrap64 (x * y) = z) (hk : k = bondP z) :
    Calls Tryz.prog 13 #[.slice (some ⟨b, off, none⟩) n cap, .int .i64 p, .int .i64 r] w fun e w' => e = .returned (.int .i64 k) ∧ ∃ q, w' = w.drewN q := by
  have HQ := Lib.hid hq; clear hq
  have HI := Lib.hid hi; clear hi
  have HJ := Lib.hid hj; clear hj
  have HV := Lib.hid hk; clear hk
  have HZ := Lib.hid hz; clear hz
  have H1 := Lib.hid hc1; clear hc1
  have H2 := Lib.hid hc2; clear hc2
  have H3 := Lib.hid hx1; clear hx1
  have H4 := Lib.hid hy1; clear hy1
  have H5 := Lib.hid hp; clear hp
  have H6 := Lib.hid hr; clear hr
  go_enter Tryz.func13, Tryz.ntmps13
  go_wp2_with fail
  refine HQ.out.mono ?_; rintro e w' ⟨rfl, mm, rfl⟩
  go_wp2_with fail
  refine (l1in_c _ _ _ true HI.out _).mono ?_; rintro e w' ⟨rfl, rfl⟩
  go_wp2_with fail
  have HL := Lib.hid hl; clear hl
  refine (l1in_c _ _ _ true HJ.out _).mono ?_; rintro e w' ⟨rfl, rfl⟩
  go_wp2_with fail
  have hl := HL.out
  have hp := H5.out
  have hr := H6.out
  have hc1 := H1.out
  have hc2 := H2.out
  have hx1 := H3.out
  have hy1 := H4.out
  go_quiet (fail)
  rw [HZ.out]
  clear hc1 hc2 hx1 hy1 hp hr
  rcases (show z = 0 ∨ z = 1 ∨ z = 2 ∨ z = 3 ∨ ((z == 0) = false ∧ (z == 1) = false ∧ (z == 2) = false ∧ (z == 3) = false) by
    by_cases h0 : z = 0
    · exact Or.inl h0
    · by_cases h1 : z = 1
      · exact Or.inr (Or.inl h1)
      · by_cases h2 : z = 2
        · exact Or.inr (Or.inr (Or.inl h2))
        · by_cases h3 : z = 3
          · exact Or.inr (Or.inr (Or.inr (Or.inl h3)))
          · exact Or.inr (Or.inr (Or.inr (Or.inr ⟨beq_eq_false_iff_ne.2 h0, beq_eq_false_iff_ne.2 h1, beq_eq_false_iff_ne.2 h2, beq_eq_false_iff_ne.2 h3⟩)))) with rfl | rfl | rfl | rfl | ⟨g0, g1, g2, g3⟩
  · go_wp2_with fail
    go_ret
    exact ⟨ret_int (HV.out.trans rfl).symm, _, rfl⟩
  · go_wp2_with fail
    go_ret
    exact ⟨ret_int (HV.out.trans rfl).symm, _, rfl⟩
  · go_wp2_with fail
    go_ret
    exact ⟨ret_int (HV.out.trans rfl).symm, _, rfl⟩
  · go_wp2_with fail
    go_ret
    exact ⟨ret_int (HV.out.trans rfl).symm, _, rfl⟩
  · have hb : bondP z = 0 := by
      unfold bondP
      rw [beq_eq_false_iff_ne] at g0 g1 g2 g3
      rw [if_neg g0, if_neg g1, if_neg g2, if_neg g3]
    have HB := Lib.hid hb; clear hb
    go_wp2_with fail
    go_ret
    exact ⟨ret_int (HV.out.trans HB.out).symm, _, rfl⟩

set_option maxHeartbeats 4000000 in
set_option maxRecDepth 100000 in
theorem bonds_any (B : Nat) (v : Value) (m : List (List Int)) (i j : Int) (w : World) (h : MatB B w v m) (hf : RowsFit m) :
    Calls Tryz.prog 13 #[v, .int .i64 i, .int .i64 j] w fun e w' => e = .returned (.int .i64 (bond m i j)) ∧ ∃ q, w' = w.drewN q := by
  have hl := hf.1
  unfold maxLen at hl
  obtain ⟨a, cap, rfl⟩ := h.slice
  by_cases hI : IsC m
  · have HQ := Lib.hid (isc_0 B _ m true (isB_yes hI) w h hf)
    by_cases hi : 0 ≤ i ∧ i ≤ (m.length : Int) - 1
    · have HI := Lib.hid (inB_yes hi)
      by_cases hj : 0 ≤ j ∧ j ≤ (m.length : Int) - 1
      · have HJ := Lib.hid (inB_yes hj)
        obtain ⟨p, rfl⟩ := Int.eq_ofNat_of_zero_le hi.1
        obtain ⟨r, rfl⟩ := Int.eq_ofNat_of_zero_le hj.1
        have hp : p < m.length := by omega
        have hr : r < m.length := by omega
        by_cases hpr : p = r
        · subst hpr
          have hv := bond_eq hI hp
          have HV := Lib.hid hv; clear hv hI h hf hi hj
          generalize m.length = n at *
          go_enter Tryz.func13, Tryz.ntmps13
          go_wp2_with fail
          refine HQ.out.mono ?_; rintro e w' ⟨rfl, mm, rfl⟩
          go_wp2_with fail
          refine (l1in_c _ _ _ true HI.out _).mono ?_; rintro e w' ⟨rfl, rfl⟩
          go_wp2_with fail
          refine (l1in_c _ _ _ true HJ.out _).mono ?_; rintro e w' ⟨rfl, rfl⟩
          go_wp2_with fail
          go_ret
          exact ⟨ret_int HV.out.symm, _, rfl⟩
        · have hv := bond_ne hI hp hr hpr
          have hx := isc_in hI hp hr hpr
          have hy := isc_in hI hr hp (fun e => hpr e.symm)
          obtain ⟨b, off, rb, roff, rcap, rfl, hc1, hx1⟩ := h.entry hI.1 hp hr
          obtain ⟨b', off', rb', roff', rcap', hab, hc2, hy1⟩ := h.entry hI.1 hr hp
          injection hab with hab
          injection hab with hab1 hab2
          subst hab1
          subst hab2
          have hne : ((p : Int) == (r : Int)) = false := by rw [beq_eq_false_iff_ne]; omega
          exact bonds_walk HQ.out HI.out HJ.out hl hp hr hne hc1 hx1 hc2 hy1 (wrap_prod hx hy) hv
      · have HJ := Lib.hid (inB_no hj)
        have hv := bond_no (i := i) (j := j) (fun x => hj x.2.2)
        have HV := Lib.hid hv; clear hv hI h hf hi hj
        generalize m.length = n at *
        go_enter Tryz.func13, Tryz.ntmps13
        go_wp2_with fail
        refine HQ.out.mono ?_; rintro e w' ⟨rfl, mm, rfl⟩
        go_wp2_with fail
        refine (l1in_c _ _ _ true HI.out _).mono ?_; rintro e w' ⟨rfl, rfl⟩
        go_wp2_with fail
        refine (l1in_c _ _ _ false HJ.out _).mono ?_; rintro e w' ⟨rfl, rfl⟩
        go_wp2_with fail
        go_ret
        exact ⟨ret_int HV.out.symm, _, rfl⟩
    · have HI := Lib.hid (inB_no hi)
      have hv := bond_no (i := i) (j := j) (fun x => hi x.2.1)
      have HV := Lib.hid hv; clear hv hI h hf hi
      generalize m.length = n at *
      go_enter Tryz.func13, Tryz.ntmps13
      go_wp2_with fail
      refine HQ.out.mono ?_; rintro e w' ⟨rfl, mm, rfl⟩
      go_wp2_with fail
      refine (l1in_c _ _ _ false HI.out _).mono ?_; rintro e w' ⟨rfl, rfl⟩
      go_wp2_with fail
      go_ret
      exact ⟨ret_int HV.out.symm, _, rfl⟩
  · have HQ := Lib.hid (isc_0 B _ m false (isB_no hI) w h hf)
    have hv := bond_no (i := i) (j := j) (fun x => hI x.1)
    have HV := Lib.hid hv; clear hv hI h hf
    generalize m.length = n at *
    go_enter Tryz.func13, Tryz.ntmps13
    go_wp2_with fail
    refine HQ.out.mono ?_; rintro e w' ⟨rfl, mm, rfl⟩
    go_wp2_with fail
    go_ret
    exact ⟨ret_int HV.out.symm, _, rfl⟩

theorem bonds_b (B : Nat) (v : Value) (m : List (List Int)) (i j : Int) (w : World) (h : MatB B w v m) (hf : RowsFit m) :
    Calls Tryz.prog 13 #[v, .int .i64 i, .int .i64 j] w fun e w' => e = .returned (.int .i64 (bond m i j)) ∧ Below w.heap.size w w' :=
  (bonds_any B v m i j w h hf).mono fun e w' ⟨h1, q, h2⟩ => ⟨h1, by rw [h2]; exact below_drewN q⟩
end Go.Proofs.YtfjeghalkmkgoaaGreatDoor
namespace Go.Proofs.YtfjeghalkmkgoaaGreatDoor
open Go.RowKit

theorem RowI.at' {A B : Nat} {w : World} {v : Value} {l : List Int} (h : RowI A B w v l) (h0 : 0 < l.length) : ∃ g cap, v = .slice (some ⟨g, 0, none⟩) l.length cap ∧ A ≤ g ∧ g < B := by
  rcases h.1.2 with ⟨_, h'⟩ | ⟨g, cap, _, h', hA, _⟩
  · omega
  · exact ⟨g, cap, h', hA, h.2 g (by rw [h']; rfl)⟩

set_option maxHeartbeats 4000000 in
set_option maxRecDepth 100000 in
theorem rip_any (A B : Nat) (v v' : Value) (m : List (List Int)) (l : List Int) (i : Nat) (w : World) (h : MatB B w v m) (h' : RowI A w.heap.size w v' l) (hBA : B ≤ A) (hI : Rows0 m m.length m.length) (hll : l.length = m.length) (hi : i < m.length) (hn : m.length ≤ 1048576) :
    Calls Tryz.prog 33 #[v, .int .i64 i, v'] w fun e w' => e = .returned (.tuple #[]) ∧ RowI A w'.heap.size w' v' (reflL m i l) ∧ w.grownBy w' v'.ownBlock ∧ w'.heap.size = w.heap.size := by
  obtain ⟨a, cap, rfl⟩ := h.slice
  obtain ⟨g, cap', rfl, hAg, hg⟩ := h'.at' (by omega)
  have HR := Lib.hid h
  have HRW := Lib.hid hI
  have hx0 : w.cell? ⟨g, i, none⟩ = some (.int .i64 (l.getD i 0)) := by
    have := h'.1.cellAt i (by omega)
    rw [this]; simp [intsV, List.getD, show i < l.length by omega]
  have h1 : w.ownsRow A 3 1 (.slice (some ⟨g, 0, none⟩) l.length cap') l.length (intsV (rflS m i l 0)) := by rw [rflS_zero]; exact h'.1
  have H1 := Lib.hid h1
  have HSTP := Lib.hid (fun k (hk : k < m.length) => rflS_step m i l k (by omega))
  have HLN := Lib.hid (fun k (hk : k ≤ m.length) => rflS_len m i l k (by omega))
  have HGT := Lib.hid (fun k (hk : k < m.length) => rflS_get m i l k (by omega))
  have HEND := Lib.hid (show rflS m i l m.length = reflL m i l from by rw [← hll]; exact rflS_end m i l)
  have HRL := Lib.hid (show (reflL m i l).length = m.length from by rw [reflL_len]; exact hll)
  have HEQ := Lib.hid (fun k => show reflE m i l k = subW (l.getD k 0) (mulW (l.getD i 0) (entry m k i)) from rfl)
  clear h h' hI h1
  rw [hll] at H1 ⊢
  rw [hll] at HLN
  generalize l.getD i 0 = z at *
  generalize m.length = n at *
  clear hll
  go_enter Tryz.func33, Tryz.ntmps33
  go_wp2_with fail
  clear hx0
  go_loopw [14] (fun i' wr => ∃ (k : Nat) (wq : World), wq = wr ∧ k ≤ n ∧ i' = .int .i64 k ∧ wq.ownsRow A 3 1 (.slice (some ⟨g, 0, none⟩) n cap') n (intsV (rflS m i l k)) ∧ w.grownBy wq (some g) ∧ wq.heap.size = w.heap.size) (fun i' _ => n - (intOf i').toNat)
  case atStart => exact ⟨0, _, rfl, Nat.zero_le _, rfl, H1.out, World.grownBy.refl _ _, rfl⟩
  case round =>
    obtain ⟨k, wq, rfl, hk, rfl, hown, hgr, hsz⟩ := hrel
    have HO := Lib.hid hown; have HG := Lib.hid hgr; have HSZ := Lib.hid hsz
    by_cases hlt : k < n
    · have hcell : wq.cell? ⟨g, k, none⟩ = some (.int .i64 (l.getD k 0)) := by
        rw [hown.cellAt k (by omega)]
        have := HGT.out k hlt
        simp [intsV, this]
      have hfz : wq.frozen? ⟨g, k, none⟩ = false := hown.frozenAt k
      have hbl : ∀ b, b < A → wq.heap[b]? = w.heap[b]? := fun b hb => hgr.block b (by omega) (fun e => by have := Option.some.inj e; omega)
      have hbw : Below A w wq := (Below.refl A w).grown hgr (by omega) (fun j hj => by have := Option.some.inj hj; omega)
      obtain ⟨b, off, rb, roff, rcap, rfl, hc1, hx⟩ := (HR.out.below hbw hBA).entry HRW.out hlt hi
      obtain ⟨hst, hgs⟩ := hown.stored k (.int .i64 (reflE m i l k))
      rw [intsV_set, HSTP.out k hlt] at hst
      have HST := Lib.hid hst
      have HGS := Lib.hid (grown_trans hgr hgs)
      have HE := Lib.hid (HEQ.out k)
      clear hst hgs hown hgr hsz hbl hbw
      generalize reflE m i l k = E at *
      generalize l.getD k 0 = x at *
      generalize entry m k i = y at *
      obtain ⟨pr, hpr⟩ : ∃ pr, pr = mulW z y := ⟨_, rfl⟩
      have h1 : IntKind.i64.wrap (z * y) = pr := by rw [hpr, wrapk]; rfl
      have h2 : wrap64 (z * y) = pr := by rw [hpr]; rfl
      have h3 : IntKind.i64.wrap (x - pr) = E := by rw [HE.out, hpr, wrapk]; rfl
      have h4 : wrap64 (x - pr) = E := by rw [HE.out, hpr]; rfl
      clear hpr HE
      go_wp2_with fail
      go_region
      go_wp2_with fail
      exact ⟨⟨k + 1, _, rfl, by omega, by go_num, HST.out.drew, grown_trans HGS.out ⟨rfl, rfl, rfl, Nat.le_refl _, fun _ _ _ => rfl⟩, by show (World.setCell _ _ _).heap.size = _; rw [World.size_setCell]; exact HSZ.out⟩, by simp [intOf]; omega⟩
    · obtain rfl : k = n := by omega
      have hd : decide (k < k) = false := by simp
      go_wp2_with fail
      go_end0
      have hfin : RowI A wq.heap.size wq (.slice (some ⟨g, 0, none⟩) k cap') (reflL m i l) := by
        refine ⟨?_, fun g' hg' => ?_⟩
        · rw [HRL.out, ← HEND.out]; exact HO.out
        · have : g = g' := by simpa [Value.ownBlock] using hg'
          have := HSZ.out; omega
      exact ⟨rfl, hfin, HG.out, HSZ.out⟩

end Go.Proofs.YtfjeghalkmkgoaaGreatDoor
