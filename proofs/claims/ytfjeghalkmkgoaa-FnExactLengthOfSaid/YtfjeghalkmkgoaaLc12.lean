/-
  Words: what the model's functions of chapter 5 return.
  Words: what the program's IsWord returns.
  Weights: what the program's impl.ActOnWeight returns (printed by mk_apc.py).
-/
import Derived.Test.YtfjeghalkmkgoaaLc03
import Derived.Test.YtfjeghalkmkgoaaLc06
import Derived.Test.YtfjeghalkmkgoaaLc07
import Derived.Test.YtfjeghalkmkgoaaLc09
import Derived.Test.YtfjeghalkmkgoaaLc10
import Derived.Deep.QuietTactic
import Derived.BigQuiet
import Derived.Test.YtfjeghalkmkgoaaLc11
namespace Go.Proofs.Ytfjeghalkmkgoaa
open Go.RowKit

theorem RowB.drawn1 {B : Nat} {w : World} {v : Value} {l : List Int} (h : RowB B w v l) (q : Nat) : RowB B (w.drewN q) v l := h.drewN q
set_option maxHeartbeats 2000000 in
set_option maxRecDepth 100000 in
theorem isws_any (B B' : Nat) (v v' : Value) (m : List (List Int)) (l : List Int) (w : World) (h : MatB B w v m) (h' : RowB B' w v' l) (hf : RowsFit m) (hl : l.length ≤ maxLen) :
    Calls Try.prog 51 #[v, v'] w fun e w' => e = .returned (.bool (wordB m l)) ∧ ∃ q, w' = w.drewN q := by
  obtain ⟨a, cap, rfl⟩ := h.slice
  obtain ⟨a', cap', rfl⟩ := h'.slice
  have HISC := Lib.hid (fun c (hc : isB m = c) q => isc_q B _ m c hc w h hf q)
  have HL := Lib.hid h'
  have hml := hf.1
  unfold maxLen at hl hml
  clear h h' hf
  have HNO := Lib.hid (fun (k : Nat) (hk : k < l.length) (h : ¬ (0 ≤ l.getD k 0 ∧ l.getD k 0 ≤ (m.length : Int) - 1)) => wordB_no (isW_bad (c := m) hk h))
  have HEND := Lib.hid (fun (h : LetTo m.length l l.length) => show wordB m l = (isB m && decide (l.length ≤ 15)) from by
    by_cases hI : IsC m
    · by_cases h15 : l.length ≤ 15
      · rw [wordB_yes ⟨h, hI, h15⟩, isB_yes hI, decide_eq_true h15]; rfl
      · rw [wordB_no (fun h' => h15 h'.2.2), decide_eq_false h15, Bool.and_false]
    · rw [wordB_no (fun h' => hI h'.2.1), isB_no hI, Bool.false_and])
  generalize wordB m l = R at *
  generalize isB m = ib at *
  generalize m.length = n at *
  generalize hln : l.length = L at *
  have HLN := Lib.hid hln; clear hln
  go_enter Try.func51, Try.ntmps51
  go_wp2_with fail
  go_loopw [5] (fun i wr => ∃ (k q : Nat), k ≤ L ∧ i = .int .i64 k ∧ wr = w.drewN q ∧ Hid (LetTo n l k)) (fun i _ => L - (intOf i).toNat)
  case atStart => exact ⟨0, 0, Nat.zero_le _, rfl, rfl, Lib.hid (letTo_zero _ _)⟩
  case round =>
    obtain ⟨k, q, hk, rfl, rfl, hs⟩ := hrel
    by_cases hlt : k < L
    · obtain ⟨b, off, rfl, hb, hc⟩ := HL.out.getD hlt
      by_cases hin : 0 ≤ l.getD k 0 ∧ l.getD k 0 ≤ (n : Int) - 1
      · have HST := Lib.hid (letTo_step hs.out hin)
        have HIN := Lib.hid (inB_yes hin)
        clear hin hs
        generalize l.getD k 0 = x at *
        go_wp2_with fail
        refine (l1in_q _ _ _ true HIN.out _ _).mono ?_
        rintro e w' ⟨rfl, nq, rfl⟩
        go_wp2_with fail
        exact ⟨⟨k + 1, q + nq, by omega, by go_num, rfl, HST⟩, by simp [intOf]; omega⟩
      · have HBAD := Lib.hid (HNO.out k hlt hin)
        have HIN := Lib.hid (inB_no hin)
        clear hin hs
        generalize l.getD k 0 = x at *
        go_wp2_with fail
        refine (l1in_q _ _ _ false HIN.out _ _).mono ?_
        rintro e w' ⟨rfl, nq, rfl⟩
        go_wp2_with fail
        go_ret
        exact ⟨ret_boolean HBAD.out.symm, q + nq, rfl⟩
    · obtain rfl : k = L := by omega
      have HE := Lib.hid (HEND.out hs.out)
      have HLK : decide ((k : Int) ≤ 15) = decide (k ≤ 15) := decide_eq_decide.2 (by omega)
      clear HEND HNO hs
      go_wp2_with fail
      refine (HISC.out _ rfl q).mono ?_
      rintro e w' ⟨rfl, nq, rfl⟩
      cases ib
      all_goals
        go_wp2_with fail
        go_ret
        exact ⟨ret_boolean (by rw [HE.out]; first | rfl | (rw [HLK, Bool.true_and])), q + nq, rfl⟩

set_option maxHeartbeats 2000000 in
set_option maxRecDepth 100000 in
theorem cats_any (B B' : Nat) (v v' : Value) (l l' : List Int) (w : World) (h : RowB B w v l) (h' : RowB B' w v' l') (hB : B ≤ w.heap.size) (hB' : B' ≤ w.heap.size) (hl : l.length ≤ 1048576) (hl' : l'.length ≤ 1048576) :
    Calls Try.prog 45 #[v, v'] w (MakesS w (l ++ l')) := by
  obtain ⟨a, cap, rfl⟩ := h.slice
  obtain ⟨a', cap', rfl⟩ := h'.slice
  have hb0 : Below w.heap.size w (w.alloc (.cells #[] 3)) := (Below.refl _ _).alloc (Nat.le_refl _) _
  have HL := Lib.hid (h.below hb0 hB)
  have HR := Lib.hid h'
  have hs0 : w.heap.size ≤ (w.alloc (.cells #[] 3)).heap.size := by simp
  have h1 : ([] : List Int).length + l.length ≤ 4194304 := by simp; omega
  have h2 : l.length + l'.length ≤ 4194304 := by omega
  have H1 := Lib.hid h1; have H2 := Lib.hid h2
  clear h h' hb0 h1 h2
  generalize hln : l.length = n at *
  generalize hln' : l'.length = n' at *
  have HLN := Lib.hid hln; have HLN' := Lib.hid hln'
  clear hln hln'
  go_enter Try.func45, Try.ntmps45
  go_wp2_with (at_builtin; go_must (refine append_intsA (row_empty w) hs0 HL.out (by rw [HLN.out]; exact H1.out) rfl rfl rfl rfl ?_))
  intro v3 w3 hr3 hb3 hz3
  have hr3 : RowI w.heap.size w3.heap.size w3 v3 l := by simpa using hr3
  have hb3' := hb3 w w.heap.size (Nat.le_refl _) ((Below.refl _ _).alloc (Nat.le_refl _) _)
  have HB3 := Lib.hid hb3'
  have hs3 := hb3'.size
  have HR3 := Lib.hid hr3
  have HR' := Lib.hid (HR.out.below hb3' hB')
  clear hb3 hz3 hr3 hb3'
  go_wp2_with (at_builtin; go_must (refine append_intsA HR3.out hs3 HR'.out (by rw [HLN.out, HLN'.out]; exact H2.out) rfl rfl rfl rfl ?_))
  intro v4 w4 hr4 hb4 hz4
  have HR4 := Lib.hid hr4
  have HB4 := Lib.hid (hb4 w w.heap.size (Nat.le_refl _) HB3.out)
  clear hb4 hz4 hr4
  go_wp2_with fail
  go_ret
  exact ⟨_, rfl, ⟨HR4.out, Nat.le_refl _⟩, HB4.out⟩

theorem rev_take {l : List Int} {k : Nat} (h : k < l.length) : (l.drop (k + 1)).reverse ++ [l.getD k 0] = (l.drop k).reverse := by
  rw [List.drop_eq_getElem_cons h, List.reverse_cons]; simp [List.getD, h]
set_option maxHeartbeats 2000000 in
set_option maxRecDepth 100000 in
theorem revs_any (B : Nat) (v : Value) (l : List Int) (w : World) (h : RowB B w v l) (hB : B ≤ w.heap.size) (hl : l.length ≤ 1048576) :
    Calls Try.prog 58 #[v] w (MakesS w l.reverse) := by
  obtain ⟨a, cap, rfl⟩ := h.slice
  have HL := Lib.hid h; clear h
  have HST := Lib.hid (fun k (hk : k < l.length) => rev_take hk)
  have HD := Lib.hid (show ∀ k, ((l.drop k).reverse).length ≤ 4194304 from fun k => by simp; omega)
  have H0 := Lib.hid (show (l.drop 0).reverse = l.reverse from rfl)
  have HE := Lib.hid (show ∀ k, l.length ≤ k → (l.drop k).reverse = [] from fun k hk => by rw [List.drop_eq_nil_of_le hk]; rfl)
  generalize hln : l.length = n at *
  have HLN := Lib.hid hln; clear hln
  go_enter Try.func58, Try.ntmps58
  go_wp2_with fail
  go_loopw [3, 4] (fun o i wr => ∃ (k : Nat) (wq : World), wq = wr ∧ k ≤ n ∧ i = .int .i64 ((k : Int) - 1) ∧ RowI w.heap.size wq.heap.size wq o (l.drop k).reverse ∧ Below w.heap.size w wq) (fun _ i _ => (intOf i + 1).toNat)
  case atStart => exact ⟨n, _, rfl, Nat.le_refl _, rfl, by rw [HE.out n (Nat.le_refl _)]; exact row_empty w, (Below.refl _ _).alloc (Nat.le_refl _) _⟩
  case round =>
    obtain ⟨k, wq, rfl, hk, rfl, hM, hb⟩ := hrel
    have HM := Lib.hid hM; clear hM
    have hsq := hb.size
    have HB := Lib.hid hb; clear hb
    by_cases hlt : 0 < k
    · obtain ⟨j, rfl⟩ : ∃ j, k = j + 1 := ⟨k - 1, by omega⟩
      have e1 : ((j + 1 : Nat) : Int) - 1 = (j : Int) := by omega
      rw [e1]
      clear e1
      obtain ⟨b, off, rfl, hb, hc⟩ := (HL.out.below HB.out hB).getD (j := j) (by omega)
      have HS := Lib.hid (HST.out j (by omega))
      have HRL := Lib.hid (HD.out (j + 1))
      generalize l.getD j 0 = x at *
      go_wp2_with (at_builtin; go_must (refine append_int HM.out hsq x rfl rfl rfl rfl HRL.out ?_; intro v' w3 hr3 hb3 hz3))
      rw [HS.out] at hr3
      have HR3 := Lib.hid hr3
      have HB3 := Lib.hid (hb3 w w.heap.size (Nat.le_refl _) HB.out)
      clear hr3 hb3 hz3
      go_wp2_with fail
      exact ⟨⟨j, _, rfl, by omega, rfl, HR3.out, HB3.out⟩, by simp [intOf]⟩
    · obtain rfl : k = 0 := by omega
      go_wp2_with fail
      go_ret
      have hM := HM.out
      rw [H0.out] at hM
      exact ⟨_, rfl, ⟨hM, Nat.le_refl _⟩, HB.out⟩
end Go.Proofs.Ytfjeghalkmkgoaa
namespace Go.Proofs.Ytfjeghalkmkgoaa
open Go.RowKit

open Classical in
noncomputable def letB (n : Nat) (l : List Int) : Bool := decide (LetTo n l l.length)
open Classical in
theorem letB_yes {n : Nat} {l : List Int} (h : LetTo n l l.length) : letB n l = true := decide_eq_true h
open Classical in
theorem letB_no {n : Nat} {l : List Int} (h : ¬ LetTo n l l.length) : letB n l = false := decide_eq_false h
open Classical in
theorem wordB_is (m : List (List Int)) (l : List Int) : wordB m l = (isB m && decide (l.length ≤ 15) && letB m.length l) := by
  by_cases hI : IsC m
  · by_cases h15 : l.length ≤ 15
    · by_cases hl : LetTo m.length l l.length
      · rw [wordB_yes ⟨hl, hI, h15⟩, isB_yes hI, decide_eq_true h15, letB_yes hl]; rfl
      · rw [wordB_no (fun h => hl h.1), letB_no hl, Bool.and_false]
    · rw [wordB_no (fun h => h15 h.2.2), decide_eq_false h15, Bool.and_false, Bool.false_and]
  · rw [wordB_no (fun h => hI h.2.1), isB_no hI, Bool.false_and, Bool.false_and]

set_option maxHeartbeats 2000000 in
set_option maxRecDepth 100000 in
theorem hop_any (B : Nat) (v : Value) (l : List Int) (ma : Option Addr) (n mcap : Nat) (w : World) (h : RowB B w v l) (hl : l.length ≤ maxLen) (hn : n ≤ 2 ^ 63 - 1) :
    Calls Try.prog 80 #[v, .slice ma n mcap] w fun e w' => e = .returned (.bool (letB n l)) ∧ w = w' := by
  obtain ⟨a, cap, rfl⟩ := h.slice
  have HL := Lib.hid h
  have HPT := Lib.hid (fun (i : Int) (c : Bool) (hc : ptB i n = c) => pt_c ma n mcap i c hc w hn)
  clear h hn
  unfold maxLen at hl
  have HNO := Lib.hid (fun (k : Nat) (hk : k < l.length) (h : ¬ (0 ≤ l.getD k 0 ∧ l.getD k 0 ≤ (n : Int) - 1)) => letB_no (n := n) (l := l) (fun h' => h (h' k hk)))
  have HYES := Lib.hid (fun (h : LetTo n l l.length) => letB_yes h)
  generalize letB n l = R at *
  generalize hln : l.length = L at *
  have HLN := Lib.hid hln; clear hln
  go_enter Try.func80, Try.ntmps80
  go_wp2_with fail
  go_loop [9] (fun i => ∃ (k : Nat), k ≤ L ∧ i = .int .i64 k ∧ Hid (LetTo n l k)) (fun i => L - (intOf i).toNat)
  case atStart => exact ⟨0, Nat.zero_le _, rfl, Lib.hid (letTo_zero _ _)⟩
  case round =>
    obtain ⟨k, hk, rfl, hs⟩ := hrel
    by_cases hlt : k < L
    · obtain ⟨b, off, rfl, hb, hc⟩ := HL.out.getD hlt
      by_cases hin : 0 ≤ l.getD k 0 ∧ l.getD k 0 ≤ (n : Int) - 1
      · have HST := Lib.hid (letTo_step hs.out hin)
        have HC := Lib.hid (HPT.out _ true (ptB_yes hin))
        clear hin hs
        generalize l.getD k 0 = x at *
        go_wp2_with fail
        refine HC.out.mono ?_
        rintro e w' ⟨rfl, rfl⟩
        go_wp2_with fail
        exact ⟨⟨k + 1, by omega, by go_num, HST⟩, by simp [intOf]; omega⟩
      · have HBAD := Lib.hid (HNO.out k hlt hin)
        have HC := Lib.hid (HPT.out _ false (ptB_no hin))
        clear hin hs
        generalize l.getD k 0 = x at *
        go_wp2_with fail
        refine HC.out.mono ?_
        rintro e w' ⟨rfl, rfl⟩
        go_wp2_with fail
        go_ret
        exact ⟨ret_boolean HBAD.out.symm, rfl⟩
    · obtain rfl : k = L := by omega
      have HE := Lib.hid (HYES.out hs.out)
      clear HNO HYES hs
      go_wp2_with fail
      go_ret
      exact ⟨ret_boolean HE.out.symm, rfl⟩

set_option maxHeartbeats 2000000 in
set_option maxRecDepth 100000 in
theorem iswi_any (B B' : Nat) (v v' : Value) (m : List (List Int)) (l : List Int) (w : World) (h : MatB B w v m) (h' : RowB B' w v' l) (hf : RowsFit m) (hl : l.length ≤ maxLen) :
    Calls Try.prog 53 #[v, v'] w fun e w' => e = .returned (.bool (wordB m l)) ∧ ∃ q, w' = w.drewN q := by
  obtain ⟨a, cap, rfl⟩ := h.slice
  have HISC := Lib.hid (fun c (hc : isB m = c) => icm_0 B _ m c hc w h hf)
  have hml := hf.1
  unfold maxLen at hml
  have HOP := Lib.hid (fun q => hop_any B' v' l a m.length cap (w.drewN q) (h'.drewN q) hl (by omega))
  obtain ⟨a', cap', rfl⟩ := h'.slice
  rw [wordB_is]
  unfold maxLen at hl
  clear h h' hf
  generalize m.length = n at *
  generalize hln : l.length = L at *
  generalize letB n l = R at *
  have HLN := Lib.hid hln; clear hln
  generalize isB m = ib at *
  cases ib with
  | false =>
    go_enter Try.func53, Try.ntmps53
    go_wp2_with fail
    refine (HISC.out _ rfl).mono ?_
    rintro e w' ⟨rfl, q, rfl⟩
    go_wp2_with fail
    go_ret
    exact ⟨ret_boolean (by simp), q, rfl⟩
  | true =>
    by_cases h15 : L ≤ 15
    · have hd : decide ((L : Int) ≤ 15) = true := decide_eq_true (by omega)
      have hd2 : decide (L ≤ 15) = true := decide_eq_true h15
      have HD := Lib.hid hd2; clear hd2
      go_enter Try.func53, Try.ntmps53
      go_wp2_with fail
      refine (HISC.out _ rfl).mono ?_
      rintro e w' ⟨rfl, q, rfl⟩
      go_wp2_with fail
      refine (HOP.out q).mono ?_
      rintro e w' ⟨rfl, rfl⟩
      go_wp2_with fail
      go_ret
      exact ⟨ret_boolean (by rw [HD.out]; simp), q, rfl⟩
    · have hd : decide ((L : Int) ≤ 15) = false := decide_eq_false (by omega)
      have hd2 : decide (L ≤ 15) = false := decide_eq_false h15
      have HD := Lib.hid hd2; clear hd2
      go_enter Try.func53, Try.ntmps53
      go_wp2_with fail
      refine (HISC.out _ rfl).mono ?_
      rintro e w' ⟨rfl, q, rfl⟩
      go_wp2_with fail
      go_ret
      exact ⟨ret_boolean (by rw [HD.out]; simp), q, rfl⟩
end Go.Proofs.Ytfjeghalkmkgoaa
namespace Go.Proofs.Ytfjeghalkmkgoaa
open Go.RowKit

set_option maxHeartbeats 4000000 in
set_option maxRecDepth 100000 in
theorem rblW_any (B B1 B2 : Nat) (v v1 v2 : Value) (m : List (List Int)) (ws l : List Int) (w : World) (h : MatB B w v m) (h1 : RowB B1 w v1 ws) (h2 : RowB B2 w v2 l) (hB : B ≤ w.heap.size) (hB1 : B1 ≤ w.heap.size) (hB2 : B2 ≤ w.heap.size)
    (hf : RowsFit m) (hws : ws.length ≤ 1048576) (hl : l.length ≤ 1048576) :
    Calls Try.prog 66 #[v, v1, v2, .func (.func 67) #[] #[]] w (MakesS w (actL m ws l)) := by
  have HCL := Lib.hid (cloi_any B2 v2 l w h2 hB2 hl)
  have HIW := Lib.hid (fun (wx : World) (hb : Below w.heap.size w wx) => iswi_any B B1 v v1 m ws wx (h.below hb hB) (h1.below hb hB1) hf (by unfold maxLen; omega))
  by_cases hok : ActOk m ws l
  · rw [actL_yes hok]
    obtain ⟨hW, hll⟩ := hok
    have HAP := Lib.hid (fun (g xc : Nat) (wx : World) (hb : Below w.heap.size w wx) (hx : RowF 3 w.heap.size wx g xc l []) => aplw_any 3 w.heap.size B g xc xc v v1 m ws l [] wx (h.below hb hB) (RowN.of (h1.below hb hB1) (Nat.le_trans hB1 hx.lt.1) (Nat.le_trans hB1 hb.size)) hx hB hW.2.1 hW.1 hws hll)
    have HWB := Lib.hid (wordB_yes hW)
    rw [HWB.out] at HIW
    have hn1 := hW.2.1.2.2.1
    have HLL := Lib.hid hll
    have HAL := Lib.hid ((actW_len m ws l).trans hll)
    obtain ⟨a, cap, rfl⟩ := h.slice
    obtain ⟨a1, cap1, rfl⟩ := h1.slice
    obtain ⟨a2, cap2, rfl⟩ := h2.slice
    clear h h1 h2 hf hW HWB hws
    rw [hll] at HCL ⊢
    generalize m.length = n at *
    generalize ws.length = L at *
    have heq : ((n : Int) == (n : Int)) = true := by simp
    generalize actW m ws l = R at *
    go_enter Try.func66, Try.ntmps66
    go_wp2_with fail
    refine HCL.out.mono ?_
    rintro e w1 ⟨x, rfl, ⟨hx, _⟩, hb⟩
    have HB := Lib.hid hb
    have HIW2 := Lib.hid (HIW.out _ HB.out)
    obtain ⟨g, xc, rfl, hg1, hg2⟩ := hx.at' (by rw [hll]; exact hn1)
    rw [hll] at hx ⊢
    have HX := Lib.hid (RowF.ofI hx hll)
    clear hx hb HIW hll
    go_wp2_with fail
    refine HIW2.out.mono ?_
    rintro e w2 ⟨rfl, q, rfl⟩
    have HB2 := Lib.hid (HB.out.trans ((below_drewN (w := w1) q).mono HB.out.size))
    have HX2 := Lib.hid (HX.out.below (below_drewN (w := w1) q) hg2)
    have HC := Lib.hid (HAP.out g xc _ HB2.out HX2.out)
    clear HX HB HIW2 HCL
    go_wp2_with fail
    refine HC.out.mono ?_
    rintro e w3 ⟨rfl, hr, hg⟩
    have HR := Lib.hid (hr.toI HAL.out)
    have HB3 := Lib.hid (HB2.out.grown hg HB2.out.size (fun j hj => by have := Option.some.inj hj; omega))
    clear hr hg HC HAP
    go_wp2_with fail
    go_ret
    exact ⟨_, rfl, ⟨HR.out, Nat.le_refl _⟩, HB3.out⟩
  · rw [actL_no hok]
    have hlm := hf.1
    unfold maxLen at hlm
    obtain ⟨a, cap, rfl⟩ := h.slice
    obtain ⟨a1, cap1, rfl⟩ := h1.slice
    obtain ⟨a2, cap2, rfl⟩ := h2.slice
    by_cases hW : IsW m ws
    · have hne : ((l.length : Int) == (m.length : Int)) = false := by rw [beq_eq_false_iff_ne]; intro e; exact hok ⟨hW, by omega⟩
      have HWB := Lib.hid (wordB_yes hW)
      rw [HWB.out] at HIW
      clear hok hW h h1 h2 hf hws HWB
      generalize m.length = n at *
      generalize ws.length = L at *
      generalize l.length = n2 at *
      go_enter Try.func66, Try.ntmps66
      go_wp2_with fail
      refine HCL.out.mono ?_
      rintro e w1 ⟨x, rfl, ⟨hx, _⟩, hb⟩
      have HX := Lib.hid hx; have HB := Lib.hid hb; have HIW2 := Lib.hid (HIW.out _ HB.out)
      clear hx hb HIW HCL
      go_wp2_with fail
      refine HIW2.out.mono ?_
      rintro e w2 ⟨rfl, q, rfl⟩
      go_wp2_with fail
      go_ret
      exact ⟨_, rfl, ⟨HX.out.step (below_drewN q), Nat.le_refl _⟩, HB.out.trans ((below_drewN q).mono HB.out.size)⟩
    · have HWB := Lib.hid (wordB_no hW)
      rw [HWB.out] at HIW
      clear hok hW h h1 h2 hf hws HWB
      generalize m.length = n at *
      generalize ws.length = L at *
      generalize l.length = n2 at *
      go_enter Try.func66, Try.ntmps66
      go_wp2_with fail
      refine HCL.out.mono ?_
      rintro e w1 ⟨x, rfl, ⟨hx, _⟩, hb⟩
      have HX := Lib.hid hx; have HB := Lib.hid hb; have HIW2 := Lib.hid (HIW.out _ HB.out)
      clear hx hb HIW HCL
      go_wp2_with fail
      refine HIW2.out.mono ?_
      rintro e w2 ⟨rfl, q, rfl⟩
      go_wp2_with fail
      go_ret
      exact ⟨_, rfl, ⟨HX.out.step (below_drewN q), Nat.le_refl _⟩, HB.out.trans ((below_drewN q).mono HB.out.size)⟩
set_option maxHeartbeats 1000000 in
set_option maxRecDepth 100000 in
theorem acti_any (B B1 B2 : Nat) (v v1 v2 : Value) (m : List (List Int)) (ws l : List Int) (w : World) (h : MatB B w v m) (h1 : RowB B1 w v1 ws) (h2 : RowB B2 w v2 l) (hB : B ≤ w.heap.size) (hB1 : B1 ≤ w.heap.size) (hB2 : B2 ≤ w.heap.size)
    (hf : RowsFit m) (hws : ws.length ≤ 1048576) (hl : l.length ≤ 1048576) :
    Calls Try.prog 39 #[v, v1, v2] w (MakesS w (actL m ws l)) := by
  have HO := Lib.hid (rblW_any B B1 B2 v v1 v2 m ws l w h h1 h2 hB hB1 hB2 hf hws hl)
  clear h h1 h2 hf
  go_enter Try.func39, Try.ntmps39
  go_wp2_with fail
  refine HO.out.mono ?_
  rintro e w1 ⟨x, rfl, hx, hb⟩
  have HX := Lib.hid hx; have HB := Lib.hid hb
  clear hx hb
  go_wp2_with fail
  go_ret
  exact ⟨_, rfl, HX.out, HB.out⟩
end Go.Proofs.Ytfjeghalkmkgoaa
