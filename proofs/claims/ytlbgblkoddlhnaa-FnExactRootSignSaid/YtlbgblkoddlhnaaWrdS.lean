/-
  Words: what the model's functions of chapter 5 return.
-/
import Derived.Test.YtlbgblkoddlhnaaWrdP
import Derived.Test.YtlbgblkoddlhnaaIn
import Derived.Test.YtlbgblkoddlhnaaFrm
import Derived.Test.YtlbgblkoddlhnaaGrow
import Derived.Test.YtlbgblkoddlhnaaApp
import Derived.Test.YtlbgblkoddlhnaaGet
namespace Go.Proofs.Ytlbgblkoddlhnaa
open Go.RowKit

theorem RowB.drawn1 {B : Nat} {w : World} {v : Value} {l : List Int} (h : RowB B w v l) (q : Nat) : RowB B (w.drewN q) v l := h.drewN q
set_option maxHeartbeats 2000000 in
set_option maxRecDepth 100000 in
theorem isws_any (B B' : Nat) (v v' : Value) (m : List (List Int)) (l : List Int) (w : World) (h : MatB B w v m) (h' : RowB B' w v' l) (hf : RowsFit m) (hl : l.length ≤ maxLen) :
    Calls Try.prog 51 #[v, v'] w fun e w' => e = .returned (.bool (wordB m l)) ∧ ∃ q, w' = w.drewN q := by
  obtain ⟨a, cap, rfl⟩ := h.slice
  obtain ⟨a', cap', rfl⟩ := h'.slice
  have HISC := Lib.hid (fun c (hc : isB m = c) q => isc_q B _ m c hc w h hf q)
  have HL := Lib.hid h'
  have hml := hf.1
  unfold maxLen at hl hml
  clear h h' hf
  have HNO := Lib.hid (fun (k : Nat) (hk : k < l.length) (h : ¬ (0 ≤ l.getD k 0 ∧ l.getD k 0 ≤ (m.length : Int) - 1)) => wordB_no (isW_bad (c := m) hk h))
  have HEND := Lib.hid (fun (h : LetTo m.length l l.length) => show wordB m l = (isB m && decide (l.length ≤ 15)) from by
    by_cases hI : IsC m
    · by_cases h15 : l.length ≤ 15
      · rw [wordB_yes ⟨h, hI, h15⟩, isB_yes hI, decide_eq_true h15]; rfl
      · rw [wordB_no (fun h' => h15 h'.2.2), decide_eq_false h15, Bool.and_false]
    · rw [wordB_no (fun h' => hI h'.2.1), isB_no hI, Bool.false_and])
  generalize wordB m l = R at *
  generalize isB m = ib at *
  generalize m.length = n at *
  generalize hln : l.length = L at *
  have HLN := Lib.hid hln; clear hln
  go_enter Try.func51, Try.ntmps51
  go_wp2_with fail
  go_loopw [5] (fun i wr => ∃ (k q : Nat), k ≤ L ∧ i = .int .i64 k ∧ wr = w.drewN q ∧ Hid (LetTo n l k)) (fun i _ => L - (intOf i).toNat)
  case atStart => exact ⟨0, 0, Nat.zero_le _, rfl, rfl, Lib.hid (letTo_zero _ _)⟩
  case round =>
    obtain ⟨k, q, hk, rfl, rfl, hs⟩ := hrel
    by_cases hlt : k < L
    · obtain ⟨b, off, rfl, hb, hc⟩ := HL.out.getD hlt
      by_cases hin : 0 ≤ l.getD k 0 ∧ l.getD k 0 ≤ (n : Int) - 1
      · have HST := Lib.hid (letTo_step hs.out hin)
        have HIN := Lib.hid (inB_yes hin)
        clear hin hs
        generalize l.getD k 0 = x at *
        go_wp2_with fail
        refine (l1in_q _ _ _ true HIN.out _ _).mono ?_
        rintro e w' ⟨rfl, nq, rfl⟩
        go_wp2_with fail
        exact ⟨⟨k + 1, q + nq, by omega, by go_num, rfl, HST⟩, by simp [intOf]; omega⟩
      · have HBAD := Lib.hid (HNO.out k hlt hin)
        have HIN := Lib.hid (inB_no hin)
        clear hin hs
        generalize l.getD k 0 = x at *
        go_wp2_with fail
        refine (l1in_q _ _ _ false HIN.out _ _).mono ?_
        rintro e w' ⟨rfl, nq, rfl⟩
        go_wp2_with fail
        go_ret
        exact ⟨ret_boolean HBAD.out.symm, q + nq, rfl⟩
    · obtain rfl : k = L := by omega
      have HE := Lib.hid (HEND.out hs.out)
      have HLK : decide ((k : Int) ≤ 15) = decide (k ≤ 15) := decide_eq_decide.2 (by omega)
      clear HEND HNO hs
      go_wp2_with fail
      refine (HISC.out _ rfl q).mono ?_
      rintro e w' ⟨rfl, nq, rfl⟩
      cases ib
      all_goals
        go_wp2_with fail
        go_ret
        exact ⟨ret_boolean (by rw [HE.out]; first | rfl | (rw [HLK, Bool.true_and])), q + nq, rfl⟩

theorem rev_take {l : List Int} {k : Nat} (h : k < l.length) : (l.drop (k + 1)).reverse ++ [l.getD k 0] = (l.drop k).reverse := by
  rw [List.drop_eq_getElem_cons h, List.reverse_cons]; simp [List.getD, h]
end Go.Proofs.Ytlbgblkoddlhnaa
