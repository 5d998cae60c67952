/-
  TransposeCartan of the model: what the call returns.
-/
import Derived.Test.YtbieimnbikmbcaaImC
import Derived.Test.YtbieimnbikmbcaaGrow
namespace Go.Proofs.Ytbieimnbikmbcaa
open Go.RowKit

def colR (m : List (List Int)) (n k : Nat) : List Int := (List.range n).map fun j => entry m j k
def trN (m : List (List Int)) (n : Nat) : List (List Int) := (List.range n).map fun i => colR m n i
noncomputable def trM (m : List (List Int)) : List (List Int) := if isB m = true then trN m m.length else []
theorem trM_yes {m : List (List Int)} (h : IsC m) : trM m = trN m m.length := if_pos (isB_yes h)
theorem trM_no {m : List (List Int)} (h : ¬ IsC m) : trM m = [] := by unfold trM; rw [isB_no h]; rfl
theorem colR_len (m : List (List Int)) (n k : Nat) : (colR m n k).length = n := by simp [colR]
theorem trN_len (m : List (List Int)) (n : Nat) : (trN m n).length = n := by simp [trN]
theorem colR_step (m : List (List Int)) (n k c : Nat) (h : c < n) : (colR m n k).take c ++ [entry m c k] = (colR m n k).take (c + 1) := by
  rw [List.take_succ_eq_append_getElem (by rw [colR_len]; exact h)]; simp [colR]
theorem trN_step (m : List (List Int)) (n k : Nat) (h : k < n) : (trN m n).take k ++ [colR m n k] = (trN m n).take (k + 1) := by
  rw [List.take_succ_eq_append_getElem (by rw [trN_len]; exact h)]; simp [trN]
theorem colR_end (m : List (List Int)) (n k : Nat) : (colR m n k).take n = colR m n k := List.take_of_length_le (by rw [colR_len]; exact Nat.le_refl _)
theorem trN_end (m : List (List Int)) (n : Nat) : (trN m n).take n = trN m n := List.take_of_length_le (by rw [trN_len]; exact Nat.le_refl _)
theorem isc_w (B : Nat) (v : Value) (m : List (List Int)) (c : Bool) (hc : isB m = c) (w : World) (h : MatB B w v m) (hf : RowsFit m) :
    Calls Try.prog 10 #[v] w fun e w' => e = .returned (.bool c) ∧ Below w.heap.size w w' :=
  (isc_0 B v m c hc w h hf).mono fun e w' ⟨h1, q, h2⟩ => ⟨h1, by rw [h2]; exact below_drewN q⟩
theorem icm_w (B : Nat) (v : Value) (m : List (List Int)) (c : Bool) (hc : isB m = c) (w : World) (h : MatB B w v m) (hf : RowsFit m) :
    Calls Try.prog 12 #[v] w fun e w' => e = .returned (.bool c) ∧ Below w.heap.size w w' :=
  (icm_any B v m w h hf).mono fun e w' ⟨h1, q, h2⟩ => ⟨by rw [h1]; exact ret_boolean hc, by rw [h2]; exact below_drewN q⟩
theorem makesM_nil {w w' : World} {x : Value} {m : List (List Int)} (hm : m = []) (h : MatI w.heap.size w'.heap.size w' x []) (hb : Below w.heap.size w w') : MakesM w m (.returned x) w' :=
  ⟨x, rfl, by rw [hm]; exact ⟨h, Nat.le_refl _⟩, hb⟩

set_option maxHeartbeats 2000000 in
set_option maxRecDepth 100000 in
theorem trs_any (B : Nat) (v : Value) (m : List (List Int)) (w : World) (h : MatB B w v m) (hB : B ≤ w.heap.size) (hf : RowsFit m) :
    Calls Try.prog 16 #[v] w (MakesM w (trM m)) := by
  obtain ⟨a, cap, rfl⟩ := h.slice
  have hl := hf.1
  have HR := Lib.hid h; clear h
  have HF := Lib.hid hf; clear hf
  by_cases hI : IsC m
  · have hrows : Rows0 m m.length m.length := hI.1
    have hn4 := hI.2.2
    have HV := Lib.hid (trM_yes hI)
    have HC := Lib.hid (isB_yes hI)
    have HRW := Lib.hid hrows
    clear hI hrows
    generalize hn : m.length = n at *
    unfold maxLen at hl
    have HN := Lib.hid hn; clear hn
    go_enter Try.func16, Try.ntmps16
    go_wp2_with fail
    go_loopw [3, 4] (fun o i wr => ∃ (k : Nat) (wq : World), wq = wr ∧ k ≤ n ∧ i = .int .i64 k ∧ MatI w.heap.size wq.heap.size wq o ((trN m n).take k) ∧ Below w.heap.size w wq) (fun _ i _ => n - (intOf i).toNat)
    case atStart => exact ⟨0, _, rfl, Nat.zero_le _, rfl, mat_empty w, (Below.refl _ _).alloc (Nat.le_refl _) _⟩
    case round =>
      obtain ⟨k, wq, rfl, hk, rfl, hM, hb⟩ := hrel
      have HM := Lib.hid hM; clear hM
      have HB := Lib.hid hb; clear hb
      by_cases hlt : k < n
      · have hlt' : decide (k < n) = true := decide_eq_true hlt
        go_wp2_with fail
        refine (isc_w B _ m true HC.out _ (HR.out.below HB.out hB) HF.out).mono ?_
        rintro e w2 ⟨rfl, hb2⟩
        have HM2 := Lib.hid (HM.out.step hb2)
        have HB2 := Lib.hid (HB.out.trans (hb2.mono HB.out.size))
        clear hb2 HM HB
        go_wp2_with fail
        go_loopw [5, 6] (fun r j wr => ∃ (c : Nat) (wi : World), wi = wr ∧ c ≤ n ∧ j = .int .i64 c ∧ RowI w2.heap.size wi.heap.size wi r ((colR m n k).take c) ∧ Below w2.heap.size w2 wi) (fun _ j _ => n - (intOf j).toNat)
        case atStart => exact ⟨0, _, rfl, Nat.zero_le _, rfl, row_empty w2, (Below.refl _ _).alloc (Nat.le_refl _) _⟩
        case round =>
          obtain ⟨c, wi, rfl, hc, rfl, hR, hbi⟩ := hrel
          have HBI := Lib.hid hbi
          have hsz := hbi.size
          have hB2 := HB2.out.size
          clear hbi
          by_cases hcn : c < n
          · have hBi : Below w.heap.size w wi := HB2.out.trans (HBI.out.mono hB2)
            obtain ⟨b, off, rb, roff, rcap, rfl, hc1, hx⟩ := (HR.out.below hBi hB).entry HRW.out hcn hlt
            clear hBi
            have HST := Lib.hid (colR_step m n k c hcn)
            have hrl : ((colR m n k).take c).length ≤ 4194304 := by rw [List.length_take]; omega
            generalize entry m c k = x at *
            have HRI := Lib.hid hR; clear hR
            have HRL := Lib.hid hrl; clear hrl
            go_wp2_with (at_builtin; go_must (refine append_int HRI.out hsz x rfl rfl rfl rfl HRL.out ?_; intro v' w3 hr3 hb3 hz3))
            rw [HST.out] at hr3
            have HR3 := Lib.hid hr3
            have HB3 := Lib.hid (hb3 w2 w2.heap.size (Nat.le_refl _) HBI.out)
            exact ⟨⟨c + 1, _, rfl, by omega, by go_num, HR3.out, HB3.out⟩, by simp [intOf]; omega⟩
          · obtain rfl : c = n := by omega
            have hM3 : MatI w.heap.size w2.heap.size wi _ _ := HM2.out.same (SameIn.of_below HBI.out (Nat.le_refl _))
            rw [colR_end] at hR
            obtain ⟨ra, rcap, rfl⟩ := hR.slice
            have HM3 := Lib.hid hM3
            have HR3 := Lib.hid hR
            have HST := Lib.hid (trN_step m c k hlt)
            have hml : ((trN m c).take k).length ≤ 1048576 := by rw [List.length_take]; omega
            have HML := Lib.hid hml
            clear hM3 hR hml
            go_wp2_with (at_builtin; go_must (refine append_row HM3.out HR3.out hB2 hsz rfl rfl rfl rfl HML.out ?_; intro v' w3 hm3 hb3 hz3))
            rw [HST.out] at hm3
            have HM4 := Lib.hid hm3
            have HB4 := Lib.hid (hb3 w w.heap.size (Nat.le_refl _) (HB2.out.trans (HBI.out.mono hB2)))
            exact ⟨⟨k + 1, _, rfl, by omega, by go_num, HM4.out, HB4.out⟩, by simp [intOf]; omega⟩
      · obtain rfl : k = n := by omega
        have hlt' : decide (k < k) = false := by simp
        go_wp2_with fail
        go_ret
        have hM := HM.out
        rw [trN_end] at hM
        exact ⟨_, rfl, by rw [HV.out]; exact ⟨hM, Nat.le_refl _⟩, HB.out⟩
  · have HV := Lib.hid (trM_no hI)
    have HC := Lib.hid (isB_no hI)
    clear hI
    generalize hn : m.length = n at *
    unfold maxLen at hl
    have HN := Lib.hid hn; clear hn
    by_cases h0 : 0 < n
    · go_enter Try.func16, Try.ntmps16
      go_wp2_with fail
      go_loopw [3, 4] (fun o i wr => i = .int .i64 0 ∧ o = .slice (some ⟨w.heap.size, 0, none⟩) 0 0 ∧ wr = w.alloc (.cells #[] 34)) (fun _ _ _ => 0)
      case atStart => exact ⟨rfl, rfl, rfl⟩
      case round =>
        obtain ⟨rfl, rfl, rfl⟩ := hrel
        have hb : Below w.heap.size w (w.alloc (.cells #[] 34)) := (Below.refl _ _).alloc (Nat.le_refl _) _
        have HB := Lib.hid hb; clear hb
        go_wp2_with fail
        refine (isc_w B _ m false HC.out _ (HR.out.below HB.out hB) HF.out).mono ?_
        rintro e w2 ⟨rfl, hb2⟩
        have HB2 := Lib.hid hb2; clear hb2
        go_wp2_with fail
        go_ret
        exact makesM_nil HV.out ((mat_empty w).step HB2.out) (HB.out.trans (HB2.out.mono HB.out.size))
    · go_enter Try.func16, Try.ntmps16
      go_wp2_with fail
      go_loopw [3, 4] (fun o i wr => i = .int .i64 0 ∧ o = .slice (some ⟨w.heap.size, 0, none⟩) 0 0 ∧ wr = w.alloc (.cells #[] 34)) (fun _ _ _ => 0)
      case atStart => exact ⟨rfl, rfl, rfl⟩
      case round =>
        obtain ⟨rfl, rfl, rfl⟩ := hrel
        have hd : decide (0 < n) = false := decide_eq_false h0
        go_wp2_with fail
        go_ret
        exact makesM_nil HV.out (mat_empty w) ((Below.refl _ _).alloc (Nat.le_refl _) _)
end Go.Proofs.Ytbieimnbikmbcaa
