/-
  Weights: what the model's ReflectWeight, ActOnWeight, RhoOf, AddWeights and SimpleRootWeight return.
-/
import Derived.Test.YtlbgblkoddlhnaaWtS
import Derived.Test.YtlbgblkoddlhnaaWrdS
import Derived.Test.YtlbgblkoddlhnaaApp
namespace Go.Proofs.Ytlbgblkoddlhnaa
open Go.RowKit

/-- A copy: 'append([]int{}, v...)' behind a walk. -/
abbrev CopyEnd (w : World) (l : List Int) (x : Value) (w' : World) : Prop := OwnS w.heap.size w'.heap.size w' x l ∧ Below w.heap.size w w'
set_option maxHeartbeats 4000000 in
set_option maxRecDepth 100000 in
theorem refs_any (B B' : Nat) (v v' : Value) (m : List (List Int)) (l : List Int) (i : Int) (w : World) (h : MatB B w v m) (h' : RowB B' w v' l) (hB : B ≤ w.heap.size) (hB' : B' ≤ w.heap.size) (hf : RowsFit m) (hl : l.length ≤ 1048576) :
    Calls Try.prog 15 #[v, .int .i64 i, v'] w (MakesS w (refwL m i l)) := by
  have HIS := Lib.hid (fun c (hc : isB m = c) => isc_w B v m c hc w h hf)
  have HRF := Lib.hid (fun (k : Nat) (wx : World) (hb : Below w.heap.size w wx) (hI : IsC m) (hll : l.length = m.length) (hk : k < m.length) => l6r_any B B' v v' m l k wx (h.below hb hB) (h'.below hb hB') (Nat.le_trans hB hb.size) (Nat.le_trans hB' hb.size) hI hll hk)
  have HL := Lib.hid h'
  have hlm := hf.1
  obtain ⟨a, cap, rfl⟩ := h.slice
  obtain ⟨a', cap', rfl⟩ := h'.slice
  clear h h' hf
  have HLL := Lib.hid (show ([] : List Int).length + l.length ≤ 4194304 by simp; omega)
  unfold maxLen at hlm
  by_cases hok : RefOk m i l
  · have HV := Lib.hid (refwL_yes hok)
    obtain ⟨hI, hll, h0, h1⟩ := hok
    obtain ⟨k, rfl⟩ := Int.eq_ofNat_of_zero_le h0
    have HC := Lib.hid (HIS.out true (isB_yes hI))
    have HIN := Lib.hid (inB_yes (x := (k : Int)) (a := 0) (b := (m.length : Int) - 1) ⟨h0, h1⟩)
    have HR2 := Lib.hid (fun (wx : World) (hb : Below w.heap.size w wx) => HRF.out k wx hb hI hll (by omega))
    have hne : ((l.length : Int) != (m.length : Int)) = false := by rw [bne_eq_false_iff_eq]; omega
    rw [HV.out]
    simp only [Int.toNat_natCast]
    clear hI HRF HIS HL HLL HV
    generalize m.length = n at *
    generalize l.length = n' at *
    generalize reflL m k l = R at *
    clear hll
    go_enter Try.func15, Try.ntmps15
    go_wp2_with fail
    refine HC.out.mono ?_
    rintro e w1 ⟨rfl, hb⟩
    have HB1 := Lib.hid hb
    have HR3 := Lib.hid (HR2.out w1 hb)
    clear hb
    go_wp2_with fail
    refine (l1in_c _ _ _ true HIN.out _).mono ?_
    rintro e w' ⟨rfl, rfl⟩
    go_wp2_with fail
    refine HR3.out.mono ?_
    rintro e w2 ⟨x, rfl, hx, hb⟩
    have HX := Lib.hid (hx.1.mono HB1.out.size (Nat.le_refl _))
    have HB2 := Lib.hid (HB1.out.trans (hb.mono HB1.out.size))
    clear hx hb
    go_wp2_with fail
    go_ret
    exact ⟨_, rfl, ⟨HX.out, Nat.le_refl _⟩, HB2.out⟩
  · rw [refwL_no hok]
    by_cases hI : IsC m
    · have HC := Lib.hid (HIS.out true (isB_yes hI))
      by_cases hll : l.length = m.length
      · have hi : ¬ (0 ≤ i ∧ i ≤ (m.length : Int) - 1) := fun h => hok ⟨hI, hll, h⟩
        have HIN := Lib.hid (inB_no hi)
        have hne : ((l.length : Int) != (m.length : Int)) = false := by rw [bne_eq_false_iff_eq]; omega
        clear hI HRF HIS hok hi hll
        generalize m.length = n at *
        generalize hnl : l.length = n' at *
        have HNL := Lib.hid hnl; clear hnl
        go_enter Try.func15, Try.ntmps15
        go_wp2_with fail
        refine HC.out.mono ?_
        rintro e w1 ⟨rfl, hb⟩
        have HB1 := Lib.hid hb
        clear hb
        go_wp2_with fail
        refine (l1in_c _ _ _ false HIN.out _).mono ?_
        rintro e w' ⟨rfl, rfl⟩
        have hb0 : Below w.heap.size w (w1.alloc (.cells #[] 3)) := HB1.out.alloc HB1.out.size _
        have HL1 := Lib.hid (HL.out.below hb0 hB')
        have hs0 : w1.heap.size ≤ (w1.alloc (.cells #[] 3)).heap.size := by simp
        have HB0 := Lib.hid hb0
        clear hb0
        go_wp2_with (at_builtin; go_must (refine append_intsA (row_empty w1) hs0 HL1.out (by rw [HNL.out]; exact HLL.out) rfl rfl rfl rfl ?_))
        intro v3 w3 hr3 hb3 hz3
        have hr3 : RowI w1.heap.size w3.heap.size w3 v3 l := by simpa using hr3
        have HR3 := Lib.hid (hr3.mono HB1.out.size (Nat.le_refl _))
        have HB3 := Lib.hid (HB1.out.trans ((hb3 w1 w1.heap.size (Nat.le_refl _) ((Below.refl _ _).alloc (Nat.le_refl _) _)).mono HB1.out.size))
        clear hb3 hz3 hr3
        go_wp2_with fail
        go_ret
        exact ⟨_, rfl, ⟨HR3.out, Nat.le_refl _⟩, HB3.out⟩
      · have hne : ((l.length : Int) != (m.length : Int)) = true := by rw [bne_iff_ne]; omega
        clear hI HRF HIS hok hll
        generalize m.length = n at *
        generalize hnl : l.length = n' at *
        have HNL := Lib.hid hnl; clear hnl
        go_enter Try.func15, Try.ntmps15
        go_wp2_with fail
        refine HC.out.mono ?_
        rintro e w1 ⟨rfl, hb⟩
        have HB1 := Lib.hid hb
        clear hb
        have hb0 : Below w.heap.size w (w1.alloc (.cells #[] 3)) := HB1.out.alloc HB1.out.size _
        have HL1 := Lib.hid (HL.out.below hb0 hB')
        have hs0 : w1.heap.size ≤ (w1.alloc (.cells #[] 3)).heap.size := by simp
        have HB0 := Lib.hid hb0
        clear hb0
        go_wp2_with (at_builtin; go_must (refine append_intsA (row_empty w1) hs0 HL1.out (by rw [HNL.out]; exact HLL.out) rfl rfl rfl rfl ?_))
        intro v3 w3 hr3 hb3 hz3
        have hr3 : RowI w1.heap.size w3.heap.size w3 v3 l := by simpa using hr3
        have HR3 := Lib.hid (hr3.mono HB1.out.size (Nat.le_refl _))
        have HB3 := Lib.hid (HB1.out.trans ((hb3 w1 w1.heap.size (Nat.le_refl _) ((Below.refl _ _).alloc (Nat.le_refl _) _)).mono HB1.out.size))
        clear hb3 hz3 hr3
        go_wp2_with fail
        go_ret
        exact ⟨_, rfl, ⟨HR3.out, Nat.le_refl _⟩, HB3.out⟩
    · have HC := Lib.hid (HIS.out false (isB_no hI))
      clear hI HRF HIS hok
      generalize m.length = n at *
      generalize hnl : l.length = n' at *
      have HNL := Lib.hid hnl; clear hnl
      go_enter Try.func15, Try.ntmps15
      go_wp2_with fail
      refine HC.out.mono ?_
      rintro e w1 ⟨rfl, hb⟩
      have HB1 := Lib.hid hb
      clear hb
      have hb0 : Below w.heap.size w (w1.alloc (.cells #[] 3)) := HB1.out.alloc HB1.out.size _
      have HL1 := Lib.hid (HL.out.below hb0 hB')
      have hs0 : w1.heap.size ≤ (w1.alloc (.cells #[] 3)).heap.size := by simp
      have HB0 := Lib.hid hb0
      clear hb0
      go_wp2_with (at_builtin; go_must (refine append_intsA (row_empty w1) hs0 HL1.out (by rw [HNL.out]; exact HLL.out) rfl rfl rfl rfl ?_))
      intro v3 w3 hr3 hb3 hz3
      have hr3 : RowI w1.heap.size w3.heap.size w3 v3 l := by simpa using hr3
      have HR3 := Lib.hid (hr3.mono HB1.out.size (Nat.le_refl _))
      have HB3 := Lib.hid (HB1.out.trans ((hb3 w1 w1.heap.size (Nat.le_refl _) ((Below.refl _ _).alloc (Nat.le_refl _) _)).mono HB1.out.size))
      clear hb3 hz3 hr3
      go_wp2_with fail
      go_ret
      exact ⟨_, rfl, ⟨HR3.out, Nat.le_refl _⟩, HB3.out⟩
end Go.Proofs.Ytlbgblkoddlhnaa
