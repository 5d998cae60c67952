/-
  Weights: what the functions of chapter 6 answer (no walk here).
  Weights: which vectors are weights (no walk here).
  Weights: what the model's FormatWeight returns.
  Words: what the model's functions of chapter 5 return.
  Weights: what the model's IsWeight returns.
-/
import Derived.IntWalk
import Derived.Test.YtcmnkhblnlmfpaaGreatDoorFC39
import Derived.Lib.ItoaLen
import Derived.Test.YtcmnkhblnlmfpaaGreatDoorFC32
import Derived.Test.YtcmnkhblnlmfpaaGreatDoorFC01
import Derived.Test.YtcmnkhblnlmfpaaGreatDoorFC03
import Derived.Test.YtcmnkhblnlmfpaaGreatDoorFC04
import Derived.Test.YtcmnkhblnlmfpaaGreatDoorFC38
namespace Go.Proofs.YtcmnkhblnlmfpaaGreatDoor
open Go.RowKit

def mulW (x y : Int) : Int := wrap64 (x * y)
def subW (x y : Int) : Int := wrap64 (x - y)
def addW (x y : Int) : Int := wrap64 (x + y)
theorem wrapk (x : Int) : IntKind.i64.wrap x = wrap64 x := by rw [IntKind.wrap_i64, wrap64]
/-! ### A reflection of a weight -/
def reflE (m : List (List Int)) (i : Nat) (l : List Int) (k : Nat) : Int := subW (l.getD k 0) (mulW (l.getD i 0) (entry m k i))
def reflK (m : List (List Int)) (i : Nat) (l : List Int) (k : Nat) : List Int := (List.range k).map (reflE m i l)
def reflL (m : List (List Int)) (i : Nat) (l : List Int) : List Int := reflK m i l l.length
theorem reflK_len (m : List (List Int)) (i : Nat) (l : List Int) (k : Nat) : (reflK m i l k).length = k := by simp [reflK]
theorem reflL_len (m : List (List Int)) (i : Nat) (l : List Int) : (reflL m i l).length = l.length := reflK_len _ _ _ _
theorem reflK_step (m : List (List Int)) (i : Nat) (l : List Int) (k : Nat) : reflK m i l k ++ [reflE m i l k] = reflK m i l (k + 1) := by simp [reflK, List.range_succ]
def RefOk (m : List (List Int)) (i : Int) (l : List Int) : Prop := IsC m ∧ l.length = m.length ∧ (0 ≤ i ∧ i ≤ (m.length : Int) - 1)
open Classical in
noncomputable def refwL (m : List (List Int)) (i : Int) (l : List Int) : List Int := if RefOk m i l then reflL m i.toNat l else l
theorem refwL_yes {m : List (List Int)} {i : Int} {l : List Int} (h : RefOk m i l) : refwL m i l = reflL m i.toNat l := if_pos h
theorem refwL_no {m : List (List Int)} {i : Int} {l : List Int} (h : ¬ RefOk m i l) : refwL m i l = l := if_neg h
theorem refwL_len (m : List (List Int)) (i : Int) (l : List Int) : (refwL m i l).length = l.length := by
  by_cases h : RefOk m i l
  · rw [refwL_yes h, reflL_len]
  · rw [refwL_no h]
/-! ### A word that acts -/
def actW (m : List (List Int)) (ws : List Int) (l : List Int) : List Int := ws.foldr (fun i l => reflL m i.toNat l) l
theorem actW_len (m : List (List Int)) (ws l : List Int) : (actW m ws l).length = l.length := by
  induction ws with
  | nil => rfl
  | cons i ws ih => simp only [actW, List.foldr_cons] at ih ⊢; rw [reflL_len]; exact ih
theorem actW_step {m : List (List Int)} {ws l : List Int} {k : Nat} (h : k < ws.length) : reflL m (ws.getD k 0).toNat (actW m (ws.drop (k + 1)) l) = actW m (ws.drop k) l := by
  conv => rhs; rw [List.drop_eq_getElem_cons h]
  have e : ws.getD k 0 = ws[k] := by simp [List.getD, h]
  unfold actW
  rw [List.foldr_cons, e]
def ActOk (m : List (List Int)) (ws l : List Int) : Prop := IsW m ws ∧ l.length = m.length
open Classical in
noncomputable def actL (m : List (List Int)) (ws l : List Int) : List Int := if ActOk m ws l then actW m ws l else l
theorem actL_yes {m : List (List Int)} {ws l : List Int} (h : ActOk m ws l) : actL m ws l = actW m ws l := if_pos h
theorem actL_no {m : List (List Int)} {ws l : List Int} (h : ¬ ActOk m ws l) : actL m ws l = l := if_neg h
theorem actL_len (m : List (List Int)) (ws l : List Int) : (actL m ws l).length = l.length := by
  by_cases h : ActOk m ws l
  · rw [actL_yes h, actW_len]
  · rw [actL_no h]
/-! ### Ones, sums, columns -/
def onesR (n : Nat) : List Int := List.replicate n 1
theorem onesR_step (n : Nat) : onesR n ++ [1] = onesR (n + 1) := by simp [onesR, List.replicate_succ']
open Classical in
noncomputable def rhoL (m : List (List Int)) : List Int := if IsC m then onesR m.length else []
theorem rhoL_yes {m : List (List Int)} (h : IsC m) : rhoL m = onesR m.length := if_pos h
theorem rhoL_no {m : List (List Int)} (h : ¬ IsC m) : rhoL m = [] := if_neg h
theorem rhoL_len (m : List (List Int)) : (rhoL m).length ≤ 4 := by
  by_cases h : IsC m
  · rw [rhoL_yes h]; simp [onesR]; exact h.2.2.2
  · rw [rhoL_no h]; simp
def addK (a b : List Int) (k : Nat) : List Int := (List.range k).map fun j => addW (a.getD j 0) (b.getD j 0)
theorem addK_step (a b : List Int) (k : Nat) : addK a b k ++ [addW (a.getD k 0) (b.getD k 0)] = addK a b (k + 1) := by simp [addK, List.range_succ]
theorem addK_len (a b : List Int) (k : Nat) : (addK a b k).length = k := by simp [addK]
def addL (a b : List Int) : List Int := addK a b (min a.length b.length)
theorem addL_len (a b : List Int) : (addL a b).length ≤ a.length := by unfold addL; rw [addK_len]; exact Nat.min_le_left _ _
def colK (m : List (List Int)) (i k : Nat) : List Int := (List.range k).map fun j => entry m j i
theorem colK_step (m : List (List Int)) (i k : Nat) : colK m i k ++ [entry m k i] = colK m i (k + 1) := by simp [colK, List.range_succ]
theorem colK_len (m : List (List Int)) (i k : Nat) : (colK m i k).length = k := by simp [colK]
def PtOk (m : List (List Int)) (i : Int) : Prop := IsC m ∧ (0 ≤ i ∧ i ≤ (m.length : Int) - 1)
open Classical in
noncomputable def srwL (m : List (List Int)) (i : Int) : List Int := if PtOk m i then colK m i.toNat m.length else []
theorem srwL_yes {m : List (List Int)} {i : Int} (h : PtOk m i) : srwL m i = colK m i.toNat m.length := if_pos h
theorem srwL_no {m : List (List Int)} {i : Int} (h : ¬ PtOk m i) : srwL m i = [] := if_neg h
theorem srwL_len (m : List (List Int)) (i : Int) : (srwL m i).length ≤ 4 := by
  by_cases h : PtOk m i
  · rw [srwL_yes h, colK_len]; exact h.1.2.2.2
  · rw [srwL_no h]; simp
end Go.Proofs.YtcmnkhblnlmfpaaGreatDoor
namespace Go.Proofs.YtcmnkhblnlmfpaaGreatDoor
open Go.RowKit

def WtTo (l : List Int) (k : Nat) : Prop := ∀ j, j < k → -1000 ≤ l.getD j 0 ∧ l.getD j 0 ≤ 1000
theorem wtTo_zero (l : List Int) : WtTo l 0 := fun _ hj => absurd hj (Nat.not_lt_zero _)
theorem wtTo_step {k : Nat} {l : List Int} (h : WtTo l k) (hk : -1000 ≤ l.getD k 0 ∧ l.getD k 0 ≤ 1000) : WtTo l (k + 1) := fun j hj => by
  rcases Nat.lt_or_ge j k with h' | h'
  · exact h j h'
  · obtain rfl : j = k := by omega
    exact hk
def IsWt (c : List (List Int)) (l : List Int) : Prop := WtTo l l.length ∧ IsC c ∧ l.length = c.length
open Classical in
noncomputable def wtB (c : List (List Int)) (l : List Int) : Bool := decide (IsWt c l)
open Classical in
theorem wtB_yes {c : List (List Int)} {l : List Int} (h : IsWt c l) : wtB c l = true := decide_eq_true h
open Classical in
theorem wtB_no {c : List (List Int)} {l : List Int} (h : ¬ IsWt c l) : wtB c l = false := decide_eq_false h
theorem isWt_bad {c : List (List Int)} {l : List Int} {k : Nat} (hk : k < l.length) (h : ¬ (-1000 ≤ l.getD k 0 ∧ l.getD k 0 ≤ 1000)) : ¬ IsWt c l := fun h' => h (h'.1 k hk)
open Classical in
noncomputable def wtlB (l : List Int) : Bool := decide (WtTo l l.length)
open Classical in
theorem wtlB_yes {l : List Int} (h : WtTo l l.length) : wtlB l = true := decide_eq_true h
open Classical in
theorem wtlB_no {l : List Int} (h : ¬ WtTo l l.length) : wtlB l = false := decide_eq_false h
theorem wtB_is (m : List (List Int)) (l : List Int) : wtB m l = (isB m && decide (l.length = m.length) && wtlB l) := by
  by_cases hI : IsC m
  · by_cases h15 : l.length = m.length
    · by_cases hl : WtTo l l.length
      · rw [wtB_yes ⟨hl, hI, h15⟩, isB_yes hI, decide_eq_true h15, wtlB_yes hl]; rfl
      · rw [wtB_no (fun h => hl h.1), wtlB_no hl, Bool.and_false]
    · rw [wtB_no (fun h => h15 h.2.2), decide_eq_false h15, Bool.and_false, Bool.false_and]
  · rw [wtB_no (fun h => hI h.2.1), isB_no hI, Bool.false_and, Bool.false_and]
/-! ### A reflection in place: the first k numbers are new -/
def rflS (m : List (List Int)) (i : Nat) (l : List Int) (k : Nat) : List Int := reflK m i l k ++ l.drop k
theorem rflS_zero (m : List (List Int)) (i : Nat) (l : List Int) : rflS m i l 0 = l := by simp [rflS, reflK]
theorem rflS_len (m : List (List Int)) (i : Nat) (l : List Int) (k : Nat) (h : k ≤ l.length) : (rflS m i l k).length = l.length := by simp [rflS, reflK_len]; omega
theorem rflS_end (m : List (List Int)) (i : Nat) (l : List Int) : rflS m i l l.length = reflL m i l := by simp [rflS, reflL]
theorem rflS_get (m : List (List Int)) (i : Nat) (l : List Int) (k : Nat) (h : k < l.length) : (rflS m i l k)[k]? = some (l.getD k 0) := by
  unfold rflS
  rw [List.getElem?_append_right (by rw [reflK_len]; exact Nat.le_refl _), reflK_len, Nat.sub_self, List.getElem?_drop]
  simp [List.getD, h]
theorem rflS_step (m : List (List Int)) (i : Nat) (l : List Int) (k : Nat) (h : k < l.length) : (rflS m i l k).set k (reflE m i l k) = rflS m i l (k + 1) := by
  unfold rflS
  rw [List.set_append_right _ _ (by rw [reflK_len]; exact Nat.le_refl _), reflK_len, Nat.sub_self, List.drop_eq_getElem_cons h, List.set_cons_zero, ← reflK_step, List.append_assoc]
  rfl
end Go.Proofs.YtcmnkhblnlmfpaaGreatDoor
namespace Go.Proofs.YtcmnkhblnlmfpaaGreatDoor
open Go.RowKit

/-- Numbers that an int holds. -/
def Fits (l : List Int) : Prop := ∀ x ∈ l, -9223372036854775808 ≤ x ∧ x ≤ 9223372036854775807
theorem Fits.getD {l : List Int} (h : Fits l) (j : Nat) : -9223372036854775808 ≤ l.getD j 0 ∧ l.getD j 0 ≤ 9223372036854775807 := by
  by_cases hj : j < l.length
  · have e : l.getD j 0 = l[j] := by simp [List.getD, hj]
    rw [e]; exact h _ (List.getElem_mem hj)
  · have e : l.getD j 0 = 0 := by simp [List.getD, hj]
    rw [e]; omega
set_option maxHeartbeats 4000000 in
set_option maxRecDepth 100000 in
theorem fmtws_any (B : Nat) (v : Value) (l : List Int) (w : World) (h : RowB B w v l) (hB : B ≤ w.heap.size) (hl : l.length ≤ 1048577) (hfit : Fits l) :
    Calls Tryz.prog 25 #[v] w fun e w' => e = .returned (.string ⟨(rowT l).toArray⟩) ∧ Below w.heap.size w w' := by
  obtain ⟨a, cap, rfl⟩ := h.slice
  have HR := Lib.hid h; clear h
  have HE := Lib.hid (fun j => hfit.getD j)
  have HSTE := Lib.hid (fun j (hj : j < l.length) => rowT_step l j hj)
  have HALL : Hid (Lib.join ((l.take l.length).map Lib.itoa) [44] = rowT l) := Lib.hid (by rw [List.take_length]; rfl)
  clear hfit
  generalize hn : l.length = n at *
  have HN := Lib.hid hn; clear hn
  go_enter Tryz.func25, Tryz.ntmps25
  go_wp2_with fail
  go_loopw [3, 4] (fun sv i wr => ∃ (j : Nat) (t : ByteArray) (wq : World), wq = wr ∧ j ≤ n ∧ i = .int .i64 j ∧ sv = .string t ∧ Hid (t.data.toList = Lib.join ((l.take j).map Lib.itoa) [44]) ∧ t.size ≤ 22 * j ∧ Below w.heap.size w wq) (fun _ i _ => n - (intOf i).toNat)
  case atStart => exact ⟨0, ⟨#[]⟩, _, rfl, Nat.zero_le _, rfl, rfl, by show Hid _; unfold Hid; simp [Lib.join_nil], Nat.le_refl _, Below.refl _ _⟩
  case round =>
    obtain ⟨j, t, wq, rfl, hj, rfl, rfl, HTT, hts, hb⟩ := hrel
    have HB := Lib.hid hb; clear hb
    by_cases hjn : j < n
    · obtain ⟨b, off, rfl, hbb, hx⟩ := (HR.out.below HB.out hB).getD hjn
      have hen := HE.out j
      have hst := HSTE.out j hjn
      generalize l.getD j 0 = x at *
      have hlx := Lib.itoa_length_le x hen.1 hen.2
      obtain ⟨t1, ht1, ht2, hcase1⟩ : ∃ t1 : ByteArray, t1.data.toList = (if j = 0 then [] else Lib.join ((l.take j).map Lib.itoa) [44] ++ [44]) ∧ t1.size ≤ 22 * j + 1 ∧ ((0 < j ∧ t1 = t ++ ⟨#[44]⟩) ∨ (¬ 0 < j ∧ t1 = t)) := by
        by_cases h1 : 0 < j
        · refine ⟨t ++ ⟨#[44]⟩, ?_, by rw [ba_app_size, ba_one]; omega, Or.inl ⟨h1, rfl⟩⟩
          rw [str_app, HTT.out, if_neg (by omega)]
        · refine ⟨t, ?_, by omega, Or.inr ⟨h1, rfl⟩⟩
          obtain rfl : j = 0 := by omega
          rw [HTT.out]; simp [Lib.join_nil]
      have hfin : (t1 ++ ⟨(Lib.itoa x).toArray⟩).data.toList = Lib.join ((l.take (j + 1)).map Lib.itoa) [44] := by
        rw [str_app, ht1, hst]
      have hsx : (⟨(Lib.itoa x).toArray⟩ : ByteArray).size ≤ 21 := by rw [ba_list]; exact hlx
      have hfs : (t1 ++ ⟨(Lib.itoa x).toArray⟩).size ≤ 22 * (j + 1) := by
        rw [ba_app_size]
        omega
      have HFIN := Lib.hid hfin
      have HFS := Lib.hid hfs
      have HFM := Lib.hid (fun (wx : World) => fmts_any x wx hen.1 hen.2)
      clear hfin hfs hst ht1 hlx hen
      rcases hcase1 with ⟨h1, he1⟩ | ⟨h1, he1⟩
      all_goals
        have HEQ1 := Lib.hid he1.symm
        clear he1
        go_wp2_with fail
        try rw [HEQ1.out]
        refine (HFM.out _).mono ?_
        rintro e w5 ⟨rfl, hb5⟩
        have HB5 := Lib.hid (HB.out.trans (hb5.mono HB.out.size))
        clear hb5
        generalize (⟨(Lib.itoa x).toArray⟩ : ByteArray) = y at *
        go_wp2_with fail
        try rw [HEQ1.out]
        exact ⟨⟨j + 1, _, _, rfl, by omega, by go_num, rfl, HFIN.out, HFS.out, HB5.out⟩, by simp [intOf]; omega⟩
    · obtain rfl : j = n := by omega
      go_wp2_with fail
      go_ret
      refine ⟨?_, HB.out⟩
      exact congrArg (fun x => Ending.returned (.string x)) (str_ofl (HTT.out.trans HALL.out))
end Go.Proofs.YtcmnkhblnlmfpaaGreatDoor
namespace Go.Proofs.YtcmnkhblnlmfpaaGreatDoor
open Go.RowKit

theorem RowB.drawn1 {B : Nat} {w : World} {v : Value} {l : List Int} (h : RowB B w v l) (q : Nat) : RowB B (w.drewN q) v l := h.drewN q
set_option maxHeartbeats 2000000 in
set_option maxRecDepth 100000 in
theorem isws_any (B B' : Nat) (v v' : Value) (m : List (List Int)) (l : List Int) (w : World) (h : MatB B w v m) (h' : RowB B' w v' l) (hf : RowsFit m) (hl : l.length ≤ maxLen) :
    Calls Tryz.prog 75 #[v, v'] w fun e w' => e = .returned (.bool (wordB m l)) ∧ ∃ q, w' = w.drewN q := by
  obtain ⟨a, cap, rfl⟩ := h.slice
  obtain ⟨a', cap', rfl⟩ := h'.slice
  have HISC := Lib.hid (fun c (hc : isB m = c) q => isc_q B _ m c hc w h hf q)
  have HL := Lib.hid h'
  have hml := hf.1
  unfold maxLen at hl hml
  clear h h' hf
  have HNO := Lib.hid (fun (k : Nat) (hk : k < l.length) (h : ¬ (0 ≤ l.getD k 0 ∧ l.getD k 0 ≤ (m.length : Int) - 1)) => wordB_no (isW_bad (c := m) hk h))
  have HEND := Lib.hid (fun (h : LetTo m.length l l.length) => show wordB m l = (isB m && decide (l.length ≤ 15)) from by
    by_cases hI : IsC m
    · by_cases h15 : l.length ≤ 15
      · rw [wordB_yes ⟨h, hI, h15⟩, isB_yes hI, decide_eq_true h15]; rfl
      · rw [wordB_no (fun h' => h15 h'.2.2), decide_eq_false h15, Bool.and_false]
    · rw [wordB_no (fun h' => hI h'.2.1), isB_no hI, Bool.false_and])
  generalize wordB m l = R at *
  generalize isB m = ib at *
  generalize m.length = n at *
  generalize hln : l.length = L at *
  have HLN := Lib.hid hln; clear hln
  go_enter Tryz.func75, Tryz.ntmps75
  go_wp2_with fail
  go_loopw [5] (fun i wr => ∃ (k q : Nat), k ≤ L ∧ i = .int .i64 k ∧ wr = w.drewN q ∧ Hid (LetTo n l k)) (fun i _ => L - (intOf i).toNat)
  case atStart => exact ⟨0, 0, Nat.zero_le _, rfl, rfl, Lib.hid (letTo_zero _ _)⟩
  case round =>
    obtain ⟨k, q, hk, rfl, rfl, hs⟩ := hrel
    by_cases hlt : k < L
    · obtain ⟨b, off, rfl, hb, hc⟩ := HL.out.getD hlt
      by_cases hin : 0 ≤ l.getD k 0 ∧ l.getD k 0 ≤ (n : Int) - 1
      · have HST := Lib.hid (letTo_step hs.out hin)
        have HIN := Lib.hid (inB_yes hin)
        clear hin hs
        generalize l.getD k 0 = x at *
        go_wp2_with fail
        refine (l1in_q _ _ _ true HIN.out _ _).mono ?_
        rintro e w' ⟨rfl, nq, rfl⟩
        go_wp2_with fail
        exact ⟨⟨k + 1, q + nq, by omega, by go_num, rfl, HST⟩, by simp [intOf]; omega⟩
      · have HBAD := Lib.hid (HNO.out k hlt hin)
        have HIN := Lib.hid (inB_no hin)
        clear hin hs
        generalize l.getD k 0 = x at *
        go_wp2_with fail
        refine (l1in_q _ _ _ false HIN.out _ _).mono ?_
        rintro e w' ⟨rfl, nq, rfl⟩
        go_wp2_with fail
        go_ret
        exact ⟨ret_boolean HBAD.out.symm, q + nq, rfl⟩
    · obtain rfl : k = L := by omega
      have HE := Lib.hid (HEND.out hs.out)
      have HLK : decide ((k : Int) ≤ 15) = decide (k ≤ 15) := decide_eq_decide.2 (by omega)
      clear HEND HNO hs
      go_wp2_with fail
      refine (HISC.out _ rfl q).mono ?_
      rintro e w' ⟨rfl, nq, rfl⟩
      cases ib
      all_goals
        go_wp2_with fail
        go_ret
        exact ⟨ret_boolean (by rw [HE.out]; first | rfl | (rw [HLK, Bool.true_and])), q + nq, rfl⟩

theorem rev_take {l : List Int} {k : Nat} (h : k < l.length) : (l.drop (k + 1)).reverse ++ [l.getD k 0] = (l.drop k).reverse := by
  rw [List.drop_eq_getElem_cons h, List.reverse_cons]; simp [List.getD, h]
end Go.Proofs.YtcmnkhblnlmfpaaGreatDoor
namespace Go.Proofs.YtcmnkhblnlmfpaaGreatDoor
open Go.RowKit

set_option maxHeartbeats 2000000 in
set_option maxRecDepth 100000 in
theorem iswts_any (B B' : Nat) (v v' : Value) (m : List (List Int)) (l : List Int) (w : World) (h : MatB B w v m) (h' : RowB B' w v' l) (hf : RowsFit m) (hl : l.length ≤ maxLen) :
    Calls Tryz.prog 11 #[v, v'] w fun e w' => e = .returned (.bool (wtB m l)) ∧ ∃ q, w' = w.drewN q := by
  obtain ⟨a, cap, rfl⟩ := h.slice
  obtain ⟨a', cap', rfl⟩ := h'.slice
  have HISC := Lib.hid (fun c (hc : isB m = c) q => isc_q B _ m c hc w h hf q)
  have HL := Lib.hid h'
  have hml := hf.1
  unfold maxLen at hl hml
  clear h h' hf
  have HNO := Lib.hid (fun (k : Nat) (hk : k < l.length) (h : ¬ (-1000 ≤ l.getD k 0 ∧ l.getD k 0 ≤ 1000)) => wtB_no (isWt_bad (c := m) hk h))
  have HEND := Lib.hid (fun (h : WtTo l l.length) => show wtB m l = (isB m && decide (l.length = m.length)) from by
    rw [wtB_is, wtlB_yes h, Bool.and_true])
  generalize wtB m l = R at *
  generalize isB m = ib at *
  generalize m.length = n at *
  generalize hln : l.length = L at *
  have HLN := Lib.hid hln; clear hln
  go_enter Tryz.func11, Tryz.ntmps11
  go_wp2_with fail
  go_loopw [5] (fun i wr => ∃ (k q : Nat), k ≤ L ∧ i = .int .i64 k ∧ wr = w.drewN q ∧ Hid (WtTo l k)) (fun i _ => L - (intOf i).toNat)
  case atStart => exact ⟨0, 0, Nat.zero_le _, rfl, rfl, Lib.hid (wtTo_zero _)⟩
  case round =>
    obtain ⟨k, q, hk, rfl, rfl, hs⟩ := hrel
    by_cases hlt : k < L
    · obtain ⟨b, off, rfl, hb, hc⟩ := HL.out.getD hlt
      by_cases hin : -1000 ≤ l.getD k 0 ∧ l.getD k 0 ≤ 1000
      · have HST := Lib.hid (wtTo_step hs.out hin)
        have HIN := Lib.hid (inB_yes hin)
        clear hin hs
        generalize l.getD k 0 = x at *
        go_wp2_with fail
        refine (l1in_q _ _ _ true HIN.out _ _).mono ?_
        rintro e w' ⟨rfl, nq, rfl⟩
        go_wp2_with fail
        exact ⟨⟨k + 1, q + nq, by omega, by go_num, rfl, HST⟩, by simp [intOf]; omega⟩
      · have HBAD := Lib.hid (HNO.out k hlt hin)
        have HIN := Lib.hid (inB_no hin)
        clear hin hs
        generalize l.getD k 0 = x at *
        go_wp2_with fail
        refine (l1in_q _ _ _ false HIN.out _ _).mono ?_
        rintro e w' ⟨rfl, nq, rfl⟩
        go_wp2_with fail
        go_ret
        exact ⟨ret_boolean HBAD.out.symm, q + nq, rfl⟩
    · obtain rfl : k = L := by omega
      have HE := Lib.hid (HEND.out hs.out)
      have hdl : decide (k < k) = false := by simp
      have HLK : ((k : Int) == (n : Int)) = decide (k = n) := by
        by_cases h : k = n
        · subst h; simp
        · rw [decide_eq_false h, beq_eq_false_iff_ne]; omega
      have HLK := Lib.hid HLK
      clear HEND HNO hs
      go_wp2_with fail
      refine (HISC.out _ rfl q).mono ?_
      rintro e w' ⟨rfl, nq, rfl⟩
      cases ib
      all_goals
        go_wp2_with fail
        go_ret
        exact ⟨ret_boolean (by rw [HE.out]; first | rfl | (rw [HLK.out, Bool.true_and])), q + nq, rfl⟩
end Go.Proofs.YtcmnkhblnlmfpaaGreatDoor
