/-
  Words: what the model's functions of chapter 5 return.
-/
import Derived.Test.YtnfogfkgbignbaaWrdP
import Derived.Test.YtnfogfkgbignbaaIn
import Derived.Test.YtnfogfkgbignbaaFrm
import Derived.Test.YtnfogfkgbignbaaGrow
import Derived.Test.YtnfogfkgbignbaaApp
import Derived.Test.YtnfogfkgbignbaaGet
namespace Go.Proofs.Ytnfogfkgbignbaa
open Go.RowKit

theorem RowB.drawn1 {B : Nat} {w : World} {v : Value} {l : List Int} (h : RowB B w v l) (q : Nat) : RowB B (w.drewN q) v l := h.drewN q
set_option maxHeartbeats 2000000 in
set_option maxRecDepth 100000 in
theorem isws_any (B B' : Nat) (v v' : Value) (m : List (List Int)) (l : List Int) (w : World) (h : MatB B w v m) (h' : RowB B' w v' l) (hf : RowsFit m) (hl : l.length ≤ maxLen) :
    Calls Try.prog 19 #[v, v'] w fun e w' => e = .returned (.bool (wordB m l)) ∧ ∃ q, w' = w.drewN q := by
  obtain ⟨a, cap, rfl⟩ := h.slice
  obtain ⟨a', cap', rfl⟩ := h'.slice
  have HISC := Lib.hid (fun c (hc : isB m = c) q => isc_q B _ m c hc w h hf q)
  have HL := Lib.hid h'
  have hml := hf.1
  unfold maxLen at hl hml
  clear h h' hf
  have HNO := Lib.hid (fun (k : Nat) (hk : k < l.length) (h : ¬ (0 ≤ l.getD k 0 ∧ l.getD k 0 ≤ (m.length : Int) - 1)) => wordB_no (isW_bad (c := m) hk h))
  have HEND := Lib.hid (fun (h : LetTo m.length l l.length) => show wordB m l = (isB m && decide (l.length ≤ 15)) from by
    by_cases hI : IsC m
    · by_cases h15 : l.length ≤ 15
      · rw [wordB_yes ⟨h, hI, h15⟩, isB_yes hI, decide_eq_true h15]; rfl
      · rw [wordB_no (fun h' => h15 h'.2.2), decide_eq_false h15, Bool.and_false]
    · rw [wordB_no (fun h' => hI h'.2.1), isB_no hI, Bool.false_and])
  generalize wordB m l = R at *
  generalize isB m = ib at *
  generalize m.length = n at *
  generalize hln : l.length = L at *
  have HLN := Lib.hid hln; clear hln
  go_enter Try.func19, Try.ntmps19
  go_wp2_with fail
  go_loopw [5] (fun i wr => ∃ (k q : Nat), k ≤ L ∧ i = .int .i64 k ∧ wr = w.drewN q ∧ Hid (LetTo n l k)) (fun i _ => L - (intOf i).toNat)
  case atStart => exact ⟨0, 0, Nat.zero_le _, rfl, rfl, Lib.hid (letTo_zero _ _)⟩
  case round =>
    obtain ⟨k, q, hk, rfl, rfl, hs⟩ := hrel
    by_cases hlt : k < L
    · obtain ⟨b, off, rfl, hb, hc⟩ := HL.out.getD hlt
      by_cases hin : 0 ≤ l.getD k 0 ∧ l.getD k 0 ≤ (n : Int) - 1
      · have HST := Lib.hid (letTo_step hs.out hin)
        have HIN := Lib.hid (inB_yes hin)
        clear hin hs
        generalize l.getD k 0 = x at *
        go_wp2_with fail
        refine (l1in_q _ _ _ true HIN.out _ _).mono ?_
        rintro e w' ⟨rfl, nq, rfl⟩
        go_wp2_with fail
        exact ⟨⟨k + 1, q + nq, by omega, by go_num, rfl, HST⟩, by simp [intOf]; omega⟩
      · have HBAD := Lib.hid (HNO.out k hlt hin)
        have HIN := Lib.hid (inB_no hin)
        clear hin hs
        generalize l.getD k 0 = x at *
        go_wp2_with fail
        refine (l1in_q _ _ _ false HIN.out _ _).mono ?_
        rintro e w' ⟨rfl, nq, rfl⟩
        go_wp2_with fail
        go_ret
        exact ⟨ret_boolean HBAD.out.symm, q + nq, rfl⟩
    · obtain rfl : k = L := by omega
      have HE := Lib.hid (HEND.out hs.out)
      have HLK : decide ((k : Int) ≤ 15) = decide (k ≤ 15) := decide_eq_decide.2 (by omega)
      clear HEND HNO hs
      go_wp2_with fail
      refine (HISC.out _ rfl q).mono ?_
      rintro e w' ⟨rfl, nq, rfl⟩
      cases ib
      all_goals
        go_wp2_with fail
        go_ret
        exact ⟨ret_boolean (by rw [HE.out]; first | rfl | (rw [HLK, Bool.true_and])), q + nq, rfl⟩

set_option maxHeartbeats 2000000 in
set_option maxRecDepth 100000 in
theorem cats_any (B B' : Nat) (v v' : Value) (l l' : List Int) (w : World) (h : RowB B w v l) (h' : RowB B' w v' l') (hB : B ≤ w.heap.size) (hB' : B' ≤ w.heap.size) (hl : l.length ≤ 1048576) (hl' : l'.length ≤ 1048576) :
    Calls Try.prog 39 #[v, v'] w (MakesS w (l ++ l')) := by
  obtain ⟨a, cap, rfl⟩ := h.slice
  obtain ⟨a', cap', rfl⟩ := h'.slice
  have hb0 : Below w.heap.size w (w.alloc (.cells #[] 3)) := (Below.refl _ _).alloc (Nat.le_refl _) _
  have HL := Lib.hid (h.below hb0 hB)
  have HR := Lib.hid h'
  have hs0 : w.heap.size ≤ (w.alloc (.cells #[] 3)).heap.size := by simp
  have h1 : ([] : List Int).length + l.length ≤ 4194304 := by simp; omega
  have h2 : l.length + l'.length ≤ 4194304 := by omega
  have H1 := Lib.hid h1; have H2 := Lib.hid h2
  clear h h' hb0 h1 h2
  generalize hln : l.length = n at *
  generalize hln' : l'.length = n' at *
  have HLN := Lib.hid hln; have HLN' := Lib.hid hln'
  clear hln hln'
  go_enter Try.func39, Try.ntmps39
  go_wp2_with (at_builtin; go_must (refine append_intsA (row_empty w) hs0 HL.out (by rw [HLN.out]; exact H1.out) rfl rfl rfl rfl ?_))
  intro v3 w3 hr3 hb3 hz3
  have hr3 : RowI w.heap.size w3.heap.size w3 v3 l := by simpa using hr3
  have hb3' := hb3 w w.heap.size (Nat.le_refl _) ((Below.refl _ _).alloc (Nat.le_refl _) _)
  have HB3 := Lib.hid hb3'
  have hs3 := hb3'.size
  have HR3 := Lib.hid hr3
  have HR' := Lib.hid (HR.out.below hb3' hB')
  clear hb3 hz3 hr3 hb3'
  go_wp2_with (at_builtin; go_must (refine append_intsA HR3.out hs3 HR'.out (by rw [HLN.out, HLN'.out]; exact H2.out) rfl rfl rfl rfl ?_))
  intro v4 w4 hr4 hb4 hz4
  have HR4 := Lib.hid hr4
  have HB4 := Lib.hid (hb4 w w.heap.size (Nat.le_refl _) HB3.out)
  clear hb4 hz4 hr4
  go_wp2_with fail
  go_ret
  exact ⟨_, rfl, ⟨HR4.out, Nat.le_refl _⟩, HB4.out⟩

theorem rev_take {l : List Int} {k : Nat} (h : k < l.length) : (l.drop (k + 1)).reverse ++ [l.getD k 0] = (l.drop k).reverse := by
  rw [List.drop_eq_getElem_cons h, List.reverse_cons]; simp [List.getD, h]
set_option maxHeartbeats 2000000 in
set_option maxRecDepth 100000 in
theorem revs_any (B : Nat) (v : Value) (l : List Int) (w : World) (h : RowB B w v l) (hB : B ≤ w.heap.size) (hl : l.length ≤ 1048576) :
    Calls Try.prog 42 #[v] w (MakesS w l.reverse) := by
  obtain ⟨a, cap, rfl⟩ := h.slice
  have HL := Lib.hid h; clear h
  have HST := Lib.hid (fun k (hk : k < l.length) => rev_take hk)
  have HD := Lib.hid (show ∀ k, ((l.drop k).reverse).length ≤ 4194304 from fun k => by simp; omega)
  have H0 := Lib.hid (show (l.drop 0).reverse = l.reverse from rfl)
  have HE := Lib.hid (show ∀ k, l.length ≤ k → (l.drop k).reverse = [] from fun k hk => by rw [List.drop_eq_nil_of_le hk]; rfl)
  generalize hln : l.length = n at *
  have HLN := Lib.hid hln; clear hln
  go_enter Try.func42, Try.ntmps42
  go_wp2_with fail
  go_loopw [3, 4] (fun o i wr => ∃ (k : Nat) (wq : World), wq = wr ∧ k ≤ n ∧ i = .int .i64 ((k : Int) - 1) ∧ RowI w.heap.size wq.heap.size wq o (l.drop k).reverse ∧ Below w.heap.size w wq) (fun _ i _ => (intOf i + 1).toNat)
  case atStart => exact ⟨n, _, rfl, Nat.le_refl _, rfl, by rw [HE.out n (Nat.le_refl _)]; exact row_empty w, (Below.refl _ _).alloc (Nat.le_refl _) _⟩
  case round =>
    obtain ⟨k, wq, rfl, hk, rfl, hM, hb⟩ := hrel
    have HM := Lib.hid hM; clear hM
    have hsq := hb.size
    have HB := Lib.hid hb; clear hb
    by_cases hlt : 0 < k
    · obtain ⟨j, rfl⟩ : ∃ j, k = j + 1 := ⟨k - 1, by omega⟩
      have e1 : ((j + 1 : Nat) : Int) - 1 = (j : Int) := by omega
      rw [e1]
      clear e1
      obtain ⟨b, off, rfl, hb, hc⟩ := (HL.out.below HB.out hB).getD (j := j) (by omega)
      have HS := Lib.hid (HST.out j (by omega))
      have HRL := Lib.hid (HD.out (j + 1))
      generalize l.getD j 0 = x at *
      go_wp2_with (at_builtin; go_must (refine append_int HM.out hsq x rfl rfl rfl rfl HRL.out ?_; intro v' w3 hr3 hb3 hz3))
      rw [HS.out] at hr3
      have HR3 := Lib.hid hr3
      have HB3 := Lib.hid (hb3 w w.heap.size (Nat.le_refl _) HB.out)
      clear hr3 hb3 hz3
      go_wp2_with fail
      exact ⟨⟨j, _, rfl, by omega, rfl, HR3.out, HB3.out⟩, by simp [intOf]⟩
    · obtain rfl : k = 0 := by omega
      go_wp2_with fail
      go_ret
      have hM := HM.out
      rw [H0.out] at hM
      exact ⟨_, rfl, ⟨hM, Nat.le_refl _⟩, HB.out⟩
end Go.Proofs.Ytnfogfkgbignbaa
