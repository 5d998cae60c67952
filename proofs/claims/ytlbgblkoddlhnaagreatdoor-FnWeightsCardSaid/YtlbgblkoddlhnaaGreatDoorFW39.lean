/-
  Words: what the program's IsWord returns.
-/
import Derived.Deep.QuietTactic
import Derived.BigQuiet
import Derived.Test.YtlbgblkoddlhnaaGreatDoorFW27
import Derived.Test.YtlbgblkoddlhnaaGreatDoorFW20
import Derived.Test.YtlbgblkoddlhnaaGreatDoorFW08
namespace Go.Proofs.YtlbgblkoddlhnaaGreatDoor
open Go.RowKit

open Classical in
noncomputable def letB (n : Nat) (l : List Int) : Bool := decide (LetTo n l l.length)
open Classical in
theorem letB_yes {n : Nat} {l : List Int} (h : LetTo n l l.length) : letB n l = true := decide_eq_true h
open Classical in
theorem letB_no {n : Nat} {l : List Int} (h : ¬ LetTo n l l.length) : letB n l = false := decide_eq_false h
open Classical in
theorem wordB_is (m : List (List Int)) (l : List Int) : wordB m l = (isB m && decide (l.length ≤ 15) && letB m.length l) := by
  by_cases hI : IsC m
  · by_cases h15 : l.length ≤ 15
    · by_cases hl : LetTo m.length l l.length
      · rw [wordB_yes ⟨hl, hI, h15⟩, isB_yes hI, decide_eq_true h15, letB_yes hl]; rfl
      · rw [wordB_no (fun h => hl h.1), letB_no hl, Bool.and_false]
    · rw [wordB_no (fun h => h15 h.2.2), decide_eq_false h15, Bool.and_false, Bool.false_and]
  · rw [wordB_no (fun h => hI h.2.1), isB_no hI, Bool.false_and, Bool.false_and]

set_option maxHeartbeats 2000000 in
set_option maxRecDepth 100000 in
theorem hop_any (B : Nat) (v : Value) (l : List Int) (ma : Option Addr) (n mcap : Nat) (w : World) (h : RowB B w v l) (hl : l.length ≤ maxLen) (hn : n ≤ 2 ^ 63 - 1) :
    Calls Tryz.prog 73 #[v, .slice ma n mcap] w fun e w' => e = .returned (.bool (letB n l)) ∧ w = w' := by
  obtain ⟨a, cap, rfl⟩ := h.slice
  have HL := Lib.hid h
  have HPT := Lib.hid (fun (i : Int) (c : Bool) (hc : ptB i n = c) => pt_c ma n mcap i c hc w hn)
  clear h hn
  unfold maxLen at hl
  have HNO := Lib.hid (fun (k : Nat) (hk : k < l.length) (h : ¬ (0 ≤ l.getD k 0 ∧ l.getD k 0 ≤ (n : Int) - 1)) => letB_no (n := n) (l := l) (fun h' => h (h' k hk)))
  have HYES := Lib.hid (fun (h : LetTo n l l.length) => letB_yes h)
  generalize letB n l = R at *
  generalize hln : l.length = L at *
  have HLN := Lib.hid hln; clear hln
  go_enter Tryz.func73, Tryz.ntmps73
  go_wp2_with fail
  go_loop [9] (fun i => ∃ (k : Nat), k ≤ L ∧ i = .int .i64 k ∧ Hid (LetTo n l k)) (fun i => L - (intOf i).toNat)
  case atStart => exact ⟨0, Nat.zero_le _, rfl, Lib.hid (letTo_zero _ _)⟩
  case round =>
    obtain ⟨k, hk, rfl, hs⟩ := hrel
    by_cases hlt : k < L
    · obtain ⟨b, off, rfl, hb, hc⟩ := HL.out.getD hlt
      by_cases hin : 0 ≤ l.getD k 0 ∧ l.getD k 0 ≤ (n : Int) - 1
      · have HST := Lib.hid (letTo_step hs.out hin)
        have HC := Lib.hid (HPT.out _ true (ptB_yes hin))
        clear hin hs
        generalize l.getD k 0 = x at *
        go_wp2_with fail
        refine HC.out.mono ?_
        rintro e w' ⟨rfl, rfl⟩
        go_wp2_with fail
        exact ⟨⟨k + 1, by omega, by go_num, HST⟩, by simp [intOf]; omega⟩
      · have HBAD := Lib.hid (HNO.out k hlt hin)
        have HC := Lib.hid (HPT.out _ false (ptB_no hin))
        clear hin hs
        generalize l.getD k 0 = x at *
        go_wp2_with fail
        refine HC.out.mono ?_
        rintro e w' ⟨rfl, rfl⟩
        go_wp2_with fail
        go_ret
        exact ⟨ret_boolean HBAD.out.symm, rfl⟩
    · obtain rfl : k = L := by omega
      have HE := Lib.hid (HYES.out hs.out)
      clear HNO HYES hs
      go_wp2_with fail
      go_ret
      exact ⟨ret_boolean HE.out.symm, rfl⟩

set_option maxHeartbeats 2000000 in
set_option maxRecDepth 100000 in
theorem iswi_any (B B' : Nat) (v v' : Value) (m : List (List Int)) (l : List Int) (w : World) (h : MatB B w v m) (h' : RowB B' w v' l) (hf : RowsFit m) (hl : l.length ≤ maxLen) :
    Calls Tryz.prog 61 #[v, v'] w fun e w' => e = .returned (.bool (wordB m l)) ∧ ∃ q, w' = w.drewN q := by
  obtain ⟨a, cap, rfl⟩ := h.slice
  have HISC := Lib.hid (fun c (hc : isB m = c) => icm_0 B _ m c hc w h hf)
  have hml := hf.1
  unfold maxLen at hml
  have HOP := Lib.hid (fun q => hop_any B' v' l a m.length cap (w.drewN q) (h'.drewN q) hl (by omega))
  obtain ⟨a', cap', rfl⟩ := h'.slice
  rw [wordB_is]
  unfold maxLen at hl
  clear h h' hf
  generalize m.length = n at *
  generalize hln : l.length = L at *
  generalize letB n l = R at *
  have HLN := Lib.hid hln; clear hln
  generalize isB m = ib at *
  cases ib with
  | false =>
    go_enter Tryz.func61, Tryz.ntmps61
    go_wp2_with fail
    refine (HISC.out _ rfl).mono ?_
    rintro e w' ⟨rfl, q, rfl⟩
    go_wp2_with fail
    go_ret
    exact ⟨ret_boolean (by simp), q, rfl⟩
  | true =>
    by_cases h15 : L ≤ 15
    · have hd : decide ((L : Int) ≤ 15) = true := decide_eq_true (by omega)
      have hd2 : decide (L ≤ 15) = true := decide_eq_true h15
      have HD := Lib.hid hd2; clear hd2
      go_enter Tryz.func61, Tryz.ntmps61
      go_wp2_with fail
      refine (HISC.out _ rfl).mono ?_
      rintro e w' ⟨rfl, q, rfl⟩
      go_wp2_with fail
      refine (HOP.out q).mono ?_
      rintro e w' ⟨rfl, rfl⟩
      go_wp2_with fail
      go_ret
      exact ⟨ret_boolean (by rw [HD.out]; simp), q, rfl⟩
    · have hd : decide ((L : Int) ≤ 15) = false := decide_eq_false (by omega)
      have hd2 : decide (L ≤ 15) = false := decide_eq_false h15
      have HD := Lib.hid hd2; clear hd2
      go_enter Tryz.func61, Tryz.ntmps61
      go_wp2_with fail
      refine (HISC.out _ rfl).mono ?_
      rintro e w' ⟨rfl, q, rfl⟩
      go_wp2_with fail
      go_ret
      exact ⟨ret_boolean (by rw [HD.out]; simp), q, rfl⟩
end Go.Proofs.YtlbgblkoddlhnaaGreatDoor
