/-
  SubCartan of the model and of the program: what each call returns.
-/
import Derived.Test.YtomciameeodpoaaPick
import Derived.Test.YtomciameeodpoaaJoS
import Derived.BigQuiet
namespace Go.Proofs.Ytomciameeodpoaa
open Go.RowKit

/-! ### Sets of points -/
def setC (n : Nat) (l : List Int) (k : Nat) : Prop := (0 ≤ l.getD k 0 ∧ l.getD k 0 ≤ (n : Int) - 1) ∧ ¬ (0 < k ∧ l.getD k 0 ≤ l.getD (k - 1) 0)
def SetTo (n : Nat) (l : List Int) (k : Nat) : Prop := ∀ i, i < k → setC n l i
theorem setTo_step {n k : Nat} {l : List Int} (h : SetTo n l k) (hk : setC n l k) : SetTo n l (k + 1) := fun i hi => by
  rcases Nat.lt_or_ge i k with h' | h'
  · exact h i h'
  · obtain rfl : i = k := by omega
    exact hk
def IsSet (n : Nat) (l : List Int) : Prop := SetTo n l l.length
theorem isSet_no {n k : Nat} {l : List Int} (hk : k < l.length) (h : ¬ setC n l k) : ¬ IsSet n l := fun hs => h (hs k hk)
theorem isSet_pt {n : Nat} {l : List Int} (h : IsSet n l) : AllPt n l := fun k hk => (h k hk).1
theorem isSet_ge {n : Nat} {l : List Int} (h : IsSet n l) (k : Nat) (hk : k < l.length) : (k : Int) ≤ l.getD k 0 := by
  induction k with
  | zero => exact (h 0 hk).1.1
  | succ k ih =>
    have h1 := ih (by omega)
    have h2 := (h (k + 1) hk).2
    simp only [Nat.add_sub_cancel] at h2
    have h3 : ¬ l.getD (k + 1) 0 ≤ l.getD k 0 := fun h => h2 ⟨by omega, h⟩
    omega
theorem isSet_len {n : Nat} {l : List Int} (h : IsSet n l) : l.length ≤ n := by
  by_cases h0 : l.length = 0
  · omega
  · have h1 := isSet_ge h (l.length - 1) (by omega)
    have h2 := (h (l.length - 1) (by omega)).1.2
    omega
open Classical in
noncomputable def setB (n : Nat) (l : List Int) : Bool := decide (IsSet n l)
open Classical in
theorem setB_yes {n : Nat} {l : List Int} (h : IsSet n l) : setB n l = true := decide_eq_true h
open Classical in
theorem setB_no {n : Nat} {l : List Int} (h : ¬ IsSet n l) : setB n l = false := decide_eq_false h
/-- What SubCartan accepts. -/
def SubOk (m : List (List Int)) (l : List Int) : Prop := IsC m ∧ l ≠ [] ∧ IsSet m.length l
open Classical in
noncomputable def subB (m : List (List Int)) (l : List Int) : Bool := decide (SubOk m l)
noncomputable def subM (m : List (List Int)) (l : List Int) : List (List Int) := if subB m l = true then pick m l else []
open Classical in
theorem subB_yes {m : List (List Int)} {l : List Int} (h : SubOk m l) : subB m l = true := decide_eq_true h
open Classical in
theorem subB_no {m : List (List Int)} {l : List Int} (h : ¬ SubOk m l) : subB m l = false := decide_eq_false h
theorem subM_yes {m : List (List Int)} {l : List Int} (h : SubOk m l) : subM m l = pick m l := if_pos (subB_yes h)
theorem subM_no {m : List (List Int)} {l : List Int} (h : ¬ SubOk m l) : subM m l = [] := by unfold subM; rw [subB_no h]; rfl
theorem subM_small (m : List (List Int)) (l : List Int) : szSum (subM m l) ≤ 1048576 := by
  by_cases h : SubOk m l
  · rw [subM_yes h]
    have h1 := isSet_len h.2.2
    have h2 := h.1.2.2.2
    exact fullF_small _ _ (by omega)
  · rw [subM_no h]; decide
/-- The list's cell before. -/
theorem RowB.prev {B : Nat} {w : World} {b off n cap : Nat} {l : List Int} (h : RowB B w (.slice (some ⟨b, off, none⟩) n cap) l) {j : Nat} (hj : j < n) : w.cell? ⟨b, off + j, none⟩ = some (.int .i64 (l.getD j 0)) := by
  obtain ⟨b', off', hla, _, hlc⟩ := h.getD hj
  injection hla with hla
  injection hla with hla1 hla2
  subst hla1
  subst hla2
  exact hlc

/-! ### The program's isPointSet -/
set_option maxHeartbeats 2000000 in
set_option maxRecDepth 100000 in
theorem ips_any (B B' : Nat) (a : Option Addr) (n cap : Nat) (v' : Value) (l : List Int) (w : World) (h' : RowB B' w v' l) (hl : n ≤ 2 ^ 63 - 1) (hll : l.length ≤ maxLen) :
    Calls Try.prog 44 #[.slice a n cap, v'] w fun e w' => e = .returned (.bool (setB n l)) ∧ w = w' := by
  obtain ⟨a', cap', rfl⟩ := h'.slice
  have HL := Lib.hid h'; clear h'
  have HNO := Lib.hid (fun (k : Nat) (hk : k < l.length) (h : ¬ setC n l k) => setB_no (isSet_no hk h))
  have HYES := Lib.hid (fun (h : SetTo n l l.length) => setB_yes h)
  generalize setB n l = R at *
  generalize hln : l.length = L at *
  have HLN := Lib.hid hln; clear hln
  unfold maxLen at hll
  go_enter Try.func44, Try.ntmps44
  go_wp2_with fail
  go_loopw [9] (fun i wr => ∃ k : Nat, k ≤ L ∧ i = .int .i64 k ∧ wr = w ∧ SetTo n l k) (fun i _ => L - (intOf i).toNat)
  case atStart => exact ⟨0, Nat.zero_le _, rfl, rfl, fun i hi => by omega⟩
  case round =>
    obtain ⟨k, hk, rfl, rfl, hs⟩ := hrel
    have HS := Lib.hid hs; clear hs
    by_cases hlt : k < L
    · obtain ⟨lb, loff, rfl, hlb, hlc⟩ := HL.out.getD hlt
      by_cases hin : 0 ≤ l.getD k 0 ∧ l.getD k 0 ≤ (n : Int) - 1
      · have HIN := Lib.hid (ptB_yes hin)
        by_cases hk0 : k = 0
        · subst hk0
          rw [Nat.add_zero] at hlc
          have HST := Lib.hid (setTo_step HS.out ⟨hin, fun h => absurd h.1 (by omega)⟩)
          clear hin
          generalize l.getD 0 0 = x at *
          go_wp2_with fail
          refine (pt_c _ _ _ _ true HIN.out _ hl).mono ?_; rintro e w' ⟨rfl, rfl⟩
          go_wp2_with fail
          exact ⟨⟨1, by omega, rfl, trivial, HST.out⟩, by simp [intOf]; omega⟩
        · obtain ⟨j, rfl⟩ : ∃ j, k = j + 1 := ⟨k - 1, by omega⟩
          have hpc := HL.out.prev (j := j) (by omega)
          have hg : decide ((0 : Int) < ((j + 1 : Nat) : Int)) = true := decide_eq_true (by omega)
          have hsub : ((j + 1 : Nat) : Int) - 1 = (j : Int) := by omega
          by_cases hle : l.getD (j + 1) 0 ≤ l.getD j 0
          · have HBAD := Lib.hid (HNO.out (j + 1) hlt (fun h => h.2 ⟨by omega, by simpa using hle⟩))
            have hle2 : decide (l.getD (j + 1) 0 ≤ l.getD j 0) = true := decide_eq_true hle
            clear hin
            generalize l.getD (j + 1) 0 = x at *
            generalize l.getD j 0 = y at *
            go_wp2_with fail
            refine (pt_c _ _ _ _ true HIN.out _ hl).mono ?_; rintro e w' ⟨rfl, rfl⟩
            go_wp2_with fail
            go_ret
            exact ⟨ret_boolean HBAD.out.symm, rfl⟩
          · have HST := Lib.hid (setTo_step HS.out ⟨hin, fun h => hle (by simpa using h.2)⟩)
            have hle2 : decide (l.getD (j + 1) 0 ≤ l.getD j 0) = false := decide_eq_false hle
            clear hin
            generalize l.getD (j + 1) 0 = x at *
            generalize l.getD j 0 = y at *
            go_wp2_with fail
            refine (pt_c _ _ _ _ true HIN.out _ hl).mono ?_; rintro e w' ⟨rfl, rfl⟩
            go_wp2_with fail
            exact ⟨⟨j + 1 + 1, by omega, by go_num, trivial, HST.out⟩, by simp [intOf]; omega⟩
      · have HIN := Lib.hid (ptB_no hin)
        have HBAD := Lib.hid (HNO.out k hlt (fun h => hin h.1))
        clear hin
        generalize l.getD k 0 = x at *
        go_wp2_with fail
        refine (pt_c _ _ _ _ false HIN.out _ hl).mono ?_; rintro e w' ⟨rfl, rfl⟩
        go_wp2_with fail
        go_ret
        exact ⟨ret_boolean HBAD.out.symm, rfl⟩
    · obtain rfl : k = L := by omega
      go_wp2_with fail
      go_ret
      exact ⟨ret_boolean (HYES.out HS.out).symm, rfl⟩

set_option maxHeartbeats 2000000 in
set_option maxRecDepth 100000 in
theorem subi_any (B B' : Nat) (v v' : Value) (m : List (List Int)) (l : List Int) (w : World) (h : MatB B w v m) (h' : RowB B' w v' l) (hB : B ≤ w.heap.size) (hB' : B' ≤ w.heap.size) (hf : RowsFit m) (hll : l.length ≤ maxLen) :
    Calls Try.prog 25 #[v, v'] w (MakesM2 w (subM m l) (.bool (subB m l))) := by
  obtain ⟨a, cap, rfl⟩ := h.slice
  obtain ⟨a', cap', rfl⟩ := h'.slice
  have hl := hf.1
  have HR := Lib.hid h; clear h
  have HL := Lib.hid h'; clear h'
  have HF := Lib.hid hf; clear hf
  have HLL := Lib.hid hll
  unfold maxLen at hl hll
  by_cases hI : IsC m
  · have HC := Lib.hid (isB_yes hI)
    by_cases h0 : l.length = 0
    · have hno : ¬ SubOk m l := fun h => h.2.1 (List.eq_nil_of_length_eq_zero h0)
      have HM := Lib.hid (subM_no hno)
      have HB := Lib.hid (subB_no hno)
      clear hno hI
      generalize subM m l = R at *
      generalize subB m l = c at *
      generalize hn : m.length = n at *
      have HN := Lib.hid hn; clear hn
      generalize hln : l.length = L at *
      have HLN := Lib.hid hln; clear hln
      have hz : ((L : Int) == 0) = true := by rw [beq_iff_eq]; omega
      have HL0 := Lib.hid h0; clear h0
      go_enter Try.func25, Try.ntmps25
      go_wp2_with fail
      refine (icm_w B _ m true HC.out _ HR.out HF.out).mono ?_
      rintro e w1 ⟨rfl, hb1⟩
      have HB1 := Lib.hid hb1; clear hb1
      go_wp2_with fail
      go_ret2
      exact makesM2_nil HM.out HB.out.symm (MatI.nil _ _ _) HB1.out
    · by_cases hs : IsSet m.length l
      · have hok : SubOk m l := ⟨hI, fun e => h0 (by rw [e]; rfl), hs⟩
        have HM := Lib.hid (subM_yes hok)
        have HB := Lib.hid (subB_yes hok)
        have HS := Lib.hid (setB_yes hs)
        have HPT := Lib.hid (isSet_pt hs)
        have hlen := isSet_len hs
        have hn4 := hI.2.2.2
        have HRW := Lib.hid hI.1
        clear hok hI hs
        generalize subM m l = R at *
        generalize subB m l = c at *
        generalize hn : m.length = n at *
        have HN := Lib.hid hn; clear hn
        generalize hln : l.length = L at *
        have HLN := Lib.hid hln; clear hln
        go_enter Try.func25, Try.ntmps25
        go_wp2_with fail
        refine (icm_w B _ m true HC.out _ HR.out HF.out).mono ?_
        rintro e w1 ⟨rfl, hb1⟩
        have HB1 := Lib.hid hb1; clear hb1
        go_wp2_with fail
        refine (ips_any B B' _ n cap _ l w1 (HL.out.below HB1.out hB') (by omega) (by rw [HLN.out]; exact HLL.out)).mono ?_
        rintro e w' ⟨rfl, rfl⟩
        rw [HS.out]
        go_wp2_with fail
        refine (pickp_any B B' _ _ m l w1 (HR.out.below HB1.out hB) (HL.out.below HB1.out hB') (Nat.le_trans hB HB1.out.size) (Nat.le_trans hB' HB1.out.size) HF.out (by rw [HN.out]; exact HRW.out) (by rw [HN.out]; exact HPT.out) (by rw [HLN.out]; omega)).mono ?_
        rintro e w2 ⟨x, rfl, hm2, hb2⟩
        have HM2 := Lib.hid hm2; clear hm2
        have HB2 := Lib.hid (HB1.out.trans (hb2.mono HB1.out.size)); clear hb2
        go_wp2_with fail
        go_ret2
        exact ⟨_, by rw [HB.out]; rfl, by rw [HM.out]; exact ⟨HM2.out.1.mono HB1.out.size (Nat.le_refl _), Nat.le_refl _⟩, HB2.out⟩
      · have hno : ¬ SubOk m l := fun h => hs h.2.2
        have HM := Lib.hid (subM_no hno)
        have HB := Lib.hid (subB_no hno)
        have HS := Lib.hid (setB_no hs)
        clear hno hI hs
        generalize subM m l = R at *
        generalize subB m l = c at *
        generalize hn : m.length = n at *
        have HN := Lib.hid hn; clear hn
        generalize hln : l.length = L at *
        have HLN := Lib.hid hln; clear hln
        go_enter Try.func25, Try.ntmps25
        go_wp2_with fail
        refine (icm_w B _ m true HC.out _ HR.out HF.out).mono ?_
        rintro e w1 ⟨rfl, hb1⟩
        have HB1 := Lib.hid hb1; clear hb1
        go_wp2_with fail
        refine (ips_any B B' _ n cap _ l w1 (HL.out.below HB1.out hB') (by omega) (by rw [HLN.out]; exact HLL.out)).mono ?_
        rintro e w' ⟨rfl, rfl⟩
        rw [HS.out]
        go_wp2_with fail
        go_ret2
        exact makesM2_nil HM.out HB.out.symm (MatI.nil _ _ _) HB1.out
  · have hno : ¬ SubOk m l := fun h => hI h.1
    have HM := Lib.hid (subM_no hno)
    have HB := Lib.hid (subB_no hno)
    have HC := Lib.hid (isB_no hI)
    clear hno hI
    generalize subM m l = R at *
    generalize subB m l = c at *
    generalize hn : m.length = n at *
    have HN := Lib.hid hn; clear hn
    generalize hln : l.length = L at *
    have HLN := Lib.hid hln; clear hln
    go_enter Try.func25, Try.ntmps25
    go_wp2_with fail
    refine (icm_w B _ m false HC.out _ HR.out HF.out).mono ?_
    rintro e w1 ⟨rfl, hb1⟩
    have HB1 := Lib.hid hb1; clear hb1
    go_wp2_with fail
    go_ret2
    exact makesM2_nil HM.out HB.out.symm (MatI.nil _ _ _) HB1.out
end Go.Proofs.Ytomciameeodpoaa
