/-
  FormatInt of the model and of the program: what each call returns.
  FormatInt of the program: what the call returns.
  FormatCartan of the model: what the call returns.
  What the condition of FnCartans' row on the listed tables gives.
-/
import Derived.Lib.ItoaNum
import Derived.Test.YtcmnkhblnlmfpaaGreatDoorFC28
import Derived.Test.YtcmnkhblnlmfpaaGreatDoorFC29
import Derived.Test.YtcmnkhblnlmfpaaGreatDoorShelfD
import Derived.Test.YtcmnkhblnlmfpaaGreatDoorShelfJ
import Derived.Lib.Join
import Derived.Test.YtcmnkhblnlmfpaaGreatDoorFC02
import Derived.Test.YtcmnkhblnlmfpaaGreatDoorFC03
import Derived.Test.YtcmnkhblnlmfpaaGreatDoorRows
import Derived.LaidMore
import Derived.OpenShut
import Derived.Stop.Joined
import Derived.Lib.LaidTab
import Derived.Stop.LaidErr
import Derived.Below
import Derived.Test.YtcmnkhblnlmfpaaGreatDoorFC22
namespace Go.Proofs.YtcmnkhblnlmfpaaGreatDoor
open Go.RowKit

theorem dec_small {u : Nat} (h : u < 10) : Lib.decDigits u = [UInt8.ofNat (48 + u)] := by rw [Lib.decDigits, dif_pos h]
theorem dec_big {u : Nat} (h : ¬ u < 10) : Lib.decDigits u = Lib.decDigits (u / 10) ++ [UInt8.ofNat (48 + u % 10)] := by rw [Lib.decDigits, dif_neg h]

/-- What the loop keeps: q is still to be written, out is written. -/
def DRel (n q : Nat) (s : ByteArray) : Prop := (0 < q ∧ Lib.decDigits q ++ s.data.toList = Lib.decDigits n) ∨ (q = 0 ∧ s.data.toList = Lib.decDigits n)
theorem drel_step {n q : Nat} {s : ByteArray} (hq : 0 < q) (h : DRel n q s) : DRel n (q / 10) (⟨#[UInt8.ofNat (48 + q % 10)]⟩ ++ s) := by
  rcases h with ⟨_, h⟩ | ⟨h, _⟩
  · have e : ((⟨#[UInt8.ofNat (48 + q % 10)]⟩ : ByteArray) ++ s).data.toList = UInt8.ofNat (48 + q % 10) :: s.data.toList := by rw [str_app]; rfl
    by_cases hs : q < 10
    · refine Or.inr ⟨by omega, ?_⟩
      rw [dec_small hs] at h
      rw [e, ← h, Nat.mod_eq_of_lt hs]; rfl
    · refine Or.inl ⟨by omega, ?_⟩
      rw [dec_big hs] at h
      rw [e, ← h]; simp
  · omega

theorem drel_end {n : Nat} {s : ByteArray} (h : DRel n 0 s) : s.data.toList = Lib.decDigits n := by
  rcases h with ⟨h, _⟩ | ⟨_, h⟩
  · omega
  · exact h

set_option maxHeartbeats 400000 in
set_option maxRecDepth 100000 in
theorem fmts_pos (n : Nat) (w : World) (h0 : 0 < n) (h1 : n ≤ 9223372036854775807) :
    Calls Tryz.prog 76 #[.int .i64 n] w fun e w' => e = .returned (.string ⟨(Lib.decDigits n).toArray⟩) ∧ Below w.heap.size w w' := by
  have hz : ((n : Int) == 0) = false := by rw [beq_eq_false_iff_ne]; omega
  have hneg : decide ((n : Int) < 0) = false := by simp
  go_enter Tryz.func76, Tryz.ntmps76
  go_wp2_with fail
  go_loopw [0, 3, 5] (fun a o _ wr => ∃ (q : Nat) (s : ByteArray), a = .int .i64 q ∧ o = .string s ∧ q ≤ n ∧ s.size + q ≤ n ∧ DRel n q s ∧ Below w.heap.size w wr ∧ w.heap.size ≤ wr.heap.size) (fun a _ _ _ => (intOf a).toNat)
  case atStart => exact ⟨n, ⟨#[]⟩, rfl, rfl, Nat.le_refl _, Nat.le_of_eq (Nat.zero_add _), Or.inl ⟨h0, by simp⟩, Below.refl _ _, Nat.le_refl _⟩
  case round =>
    obtain ⟨q, s, rfl, rfl, hq, hs, hr, hb, hz2⟩ := hrel
    have HR := Lib.hid hr; clear hr
    have HB := Lib.hid hb; clear hb
    by_cases hq0 : 0 < q
    · have hne : ((q : Int) != 0) = true := by rw [bne_iff_ne]; omega
      rename_i wr
      obtain ⟨b, hbq, hbu⟩ : ∃ b : UInt8, b = UInt8.ofNat (48 + q % 10) ∧ (b.toNat : Int) = 48 + (q : Int) % 10 := ⟨_, rfl, by rw [u8_nat _ (by omega)]; omega⟩
      have HBQ := Lib.hid hbq; clear hbq
      have hcv := conv_byte wr b hbu
      clear hbu
      have hst := drel_step hq0 HR.out
      rw [← HBQ.out] at hst
      have HST := Lib.hid hst; clear hst
      go_wp2_with fail
      refine ⟨⟨q / 10, _, by go_num, rfl, by omega, ?_, HST.out, HB.out.alloc hz2 _, by simp; omega⟩, by simp [intOf]; omega⟩
      rw [str_app_size]; omega
    · obtain rfl : q = 0 := by omega
      go_wp2_with fail
      go_ret
      exact ⟨ret_string (str_of (drel_end HR.out)), HB.out⟩

theorem itoa_pos (n : Nat) : Lib.itoa (n : Int) = Lib.decDigits n := by unfold Lib.itoa; rw [if_neg (by omega), Int.toNat_natCast]
theorem itoa_neg (n : Nat) (h : 0 < n) : Lib.itoa (-(n : Int)) = 45 :: Lib.decDigits n := by
  unfold Lib.itoa; rw [if_pos (by omega), Int.natAbs_neg, Int.natAbs_natCast]

theorem neg_tmod (q : Nat) : (-(q : Int)).tmod 10 = -((q : Int) % 10) := by
  rw [Int.neg_tmod, Int.tmod_eq_emod_of_nonneg (by omega)]
theorem neg_tdiv (q : Nat) : (-(q : Int)).tdiv 10 = -((q : Int) / 10) := by
  rw [Int.neg_tdiv, Int.tdiv_eq_ediv_of_nonneg (by omega)]

set_option maxHeartbeats 400000 in
set_option maxRecDepth 100000 in
theorem fmts_neg (n : Nat) (w : World) (h0 : 0 < n) (h1 : n ≤ 9223372036854775808) :
    Calls Tryz.prog 76 #[.int .i64 (-(n : Int))] w fun e w' => e = .returned (.string ⟨(45 :: Lib.decDigits n).toArray⟩) ∧ Below w.heap.size w w' := by
  have hz : (-(n : Int) == 0) = false := by rw [beq_eq_false_iff_ne]; omega
  have hneg : decide (-(n : Int) < 0) = true := by rw [decide_eq_true_eq]; omega
  go_enter Tryz.func76, Tryz.ntmps76
  go_wp2_with fail
  go_loopw [0, 3, 5] (fun a o _ wr => ∃ (q : Nat) (s : ByteArray), a = .int .i64 (-(q : Int)) ∧ o = .string s ∧ q ≤ n ∧ (s.size = 0 ∨ s.size + q ≤ n / 10 + 1) ∧ DRel n q s ∧ Below w.heap.size w wr ∧ w.heap.size ≤ wr.heap.size) (fun a _ _ _ => (-(intOf a)).toNat)
  case atStart => exact ⟨n, ⟨#[]⟩, rfl, rfl, Nat.le_refl _, Or.inl rfl, Or.inl ⟨h0, by simp⟩, Below.refl _ _, Nat.le_refl _⟩
  case round =>
    obtain ⟨q, s, rfl, rfl, hq, hs, hr, hb, hz2⟩ := hrel
    have HR := Lib.hid hr; clear hr
    have HB := Lib.hid hb; clear hb
    have ht := neg_tmod q
    have hd := neg_tdiv q
    by_cases hq0 : 0 < q
    · have hne : (-(q : Int) != 0) = true := by rw [bne_iff_ne]; omega
      rename_i wr
      have hs1 : s.size ≤ n / 10 + 1 := by omega
      have HS := Lib.hid hs; clear hs
      obtain ⟨b, hbq, hbu⟩ : ∃ b : UInt8, b = UInt8.ofNat (48 + q % 10) ∧ (b.toNat : Int) = 48 + (q : Int) % 10 := ⟨_, rfl, by rw [u8_nat _ (by omega)]; omega⟩
      have HBQ := Lib.hid hbq; clear hbq
      have hst := drel_step hq0 HR.out
      rw [← HBQ.out] at hst
      have HST := Lib.hid hst; clear hst
      by_cases hm : (q : Int) % 10 = 0
      · have hcv := conv_byte wr b (u := 48 + -((q : Int) % 10)) (by omega)
        have hm1 : (q : Int) % 10 ≤ 0 := by omega
        clear hm hbu
        go_wp2_with fail
        refine ⟨⟨q / 10, _, by go_num, rfl, by omega, Or.inr ?_, HST.out, HB.out.alloc hz2 _, by simp; omega⟩, by simp [intOf]; omega⟩
        have := HS.out
        rw [str_app_size]; omega
      · have hcv := conv_byte wr b hbu
        have hm1 : 0 < (q : Int) % 10 := by omega
        clear hm hbu
        go_wp2_with fail
        refine ⟨⟨q / 10, _, by go_num, rfl, by omega, Or.inr ?_, HST.out, HB.out.alloc hz2 _, by simp; omega⟩, by simp [intOf]; omega⟩
        have := HS.out
        rw [str_app_size]; omega
    · obtain rfl : q = 0 := by omega
      have hs1 : s.size ≤ n / 10 + 1 := by omega
      clear hs
      go_wp2_with fail
      go_ret
      refine ⟨ret_string (str_of ?_), HB.out⟩
      rw [str_app, drel_end HR.out]; rfl

set_option maxHeartbeats 400000 in
theorem fmts_zero (w : World) :
    Calls Tryz.prog 76 #[.int .i64 0] w fun e w' => e = .returned (.string ⟨(Lib.itoa 0).toArray⟩) ∧ Below w.heap.size w w' := by
  have hi : Lib.itoa 0 = [48] := by
    have := itoa_pos 0
    rw [dec_small (by omega)] at this
    exact this
  have HI := Lib.hid hi; clear hi
  go_enter Tryz.func76, Tryz.ntmps76
  go_wp2
  go_ret
  rw [HI.out]
  exact ⟨rfl, Below.refl _ _⟩

theorem fmts_any (n : Int) (w : World) (h0 : -9223372036854775808 ≤ n) (h1 : n ≤ 9223372036854775807) :
    Calls Tryz.prog 76 #[.int .i64 n] w fun e w' => e = .returned (.string ⟨(Lib.itoa n).toArray⟩) ∧ Below w.heap.size w w' := by
  rcases Int.lt_trichotomy n 0 with h | h | h
  · obtain ⟨m, rfl⟩ : ∃ m : Nat, n = -(m : Int) := ⟨n.natAbs, by omega⟩
    rw [itoa_neg m (by omega)]
    exact fmts_neg m w (by omega) (by omega)
  · subst h
    exact fmts_zero w
  · obtain ⟨m, rfl⟩ := Int.eq_ofNat_of_zero_le (show 0 ≤ n by omega)
    rw [itoa_pos m]
    exact fmts_pos m w (by omega) (by omega)
end Go.Proofs.YtcmnkhblnlmfpaaGreatDoor
namespace Go.Proofs.YtcmnkhblnlmfpaaGreatDoor
open Go.RowKit

theorem below_grow {w : World} (k : Nat) (os : Array Obj) : Below w.heap.size w (Sort.grow (w.drewN k) os) := by
  refine ⟨rfl, rfl, rfl, ?_, ?_⟩
  · show w.heap.size ≤ (w.heap ++ os).size
    simp
  · intro i hi
    show (w.heap ++ os)[i]? = w.heap[i]?
    rw [Array.getElem?_append_left hi]

set_option maxHeartbeats 400000 in
theorem fmti_any (n : Int) (w : World) (h0 : -9223372036854775808 ≤ n) (h1 : n ≤ 9223372036854775807)
    (htab : Lib.TabIs Tryz.prog w "internal/strconv.uint64pow10" .u64 Lib.pow10Tab) :
    Calls Tryz.prog 101 #[.int .i64 n] w fun e w' => e = .returned (.string ⟨(Lib.itoa n).toArray⟩) ∧ Below w.heap.size w w' := by
  have HT := Lib.hid htab; clear htab
  go_enter Tryz.func101, Tryz.ntmps101
  go_wp2_with (go_at_call 117; go_must (refine (Tryz.strconv_Itoa n h0 h1 _ HT.out).mono ?_; rintro e w' ⟨rfl, k, os, rfl⟩))
  go_ret
  exact ⟨rfl, below_grow k os⟩
end Go.Proofs.YtcmnkhblnlmfpaaGreatDoor
namespace Go.Proofs.YtcmnkhblnlmfpaaGreatDoor
open Go.RowKit

theorem join_snoc (l : List (List UInt8)) (x sep : List UInt8) (h : l ≠ []) : Lib.join (l ++ [x]) sep = Lib.join l sep ++ sep ++ x := by
  cases l with
  | nil => exact absurd rfl h
  | cons y r =>
    rw [List.cons_append, Lib.join_cons, Lib.join_cons]
    simp [Lib.joinTail]
theorem map_take_ne {α β : Type} (f : α → β) (l : List α) (k : Nat) (hk : 0 < k) (hl : k ≤ l.length) : (l.take k).map f ≠ [] := by
  intro e
  have h : ((l.take k).map f).length = 0 := by rw [e]; rfl
  rw [List.length_map, List.length_take] at h
  omega
theorem ba_app_size (a b : ByteArray) : (a ++ b).size = a.size + b.size := ByteArray.size_append
theorem ba_one (c : UInt8) : (⟨#[c]⟩ : ByteArray).size = 1 := rfl
theorem ba_list (l : List UInt8) : (⟨l.toArray⟩ : ByteArray).size = l.length := rfl
def rowT (r : List Int) : List UInt8 := Lib.join (r.map Lib.itoa) [44]
def fmtT (m : List (List Int)) : List UInt8 := Lib.join (m.map rowT) [59]
/-- What stands before the k-th row. -/
def preT (m : List (List Int)) (k : Nat) : List UInt8 := if k = 0 then [] else Lib.join ((m.take k).map rowT) [59] ++ [59]
theorem preT_join (m : List (List Int)) (k : Nat) (h : k < m.length) : preT m k ++ rowT (m.getD k []) = Lib.join ((m.take (k + 1)).map rowT) [59] := by
  rw [getD_row m k h, List.take_succ_eq_append_getElem h, List.map_append]
  unfold preT
  by_cases h0 : k = 0
  · subst h0
    rw [if_pos rfl]
    simp [Lib.join_one]
  · rw [if_neg h0, List.map_cons, List.map_nil, join_snoc _ _ _ (map_take_ne _ _ _ (by omega) (by omega))]
theorem rowT_step (r : List Int) (j : Nat) (h : j < r.length) : (if j = 0 then [] else Lib.join ((r.take j).map Lib.itoa) [44] ++ [44]) ++ Lib.itoa (r.getD j 0) = Lib.join ((r.take (j + 1)).map Lib.itoa) [44] := by
  have hg : r.getD j 0 = r[j] := by simp [List.getD, h]
  rw [hg, List.take_succ_eq_append_getElem h, List.map_append]
  by_cases h0 : j = 0
  · subst h0
    rw [if_pos rfl]
    simp [Lib.join_one]
  · rw [if_neg h0, List.map_cons, List.map_nil, join_snoc _ _ _ (map_take_ne _ _ _ (by omega) (by omega))]
theorem itoa_short {x : Int} (h : -3 ≤ x ∧ x ≤ 2) : (Lib.itoa x).length ≤ 2 := by
  by_cases h0 : x < 0
  · obtain ⟨m, rfl⟩ : ∃ m : Nat, x = -(m : Int) := ⟨x.natAbs, by omega⟩
    rw [itoa_neg m (by omega), dec_small (by omega)]
    simp
  · obtain ⟨m, rfl⟩ := Int.eq_ofNat_of_zero_le (show 0 ≤ x by omega)
    rw [itoa_pos m, dec_small (by omega)]
    simp
theorem isC_entry {m : List (List Int)} (h : IsC m) {i j : Nat} (hi : i < m.length) (hj : j < m.length) : -3 ≤ entry m i j ∧ entry m i j ≤ 2 := by
  rcases h.2.1 i j hi hj with h | h
  · omega
  · omega
noncomputable def fmtM (m : List (List Int)) : List UInt8 := if isB m = true then fmtT m else []
theorem fmtM_yes {m : List (List Int)} (h : IsC m) : fmtM m = fmtT m := if_pos (isB_yes h)
theorem fmtM_no {m : List (List Int)} (h : ¬ IsC m) : fmtM m = [] := by unfold fmtM; rw [isB_no h]; rfl
theorem isc_wD (B : Nat) (v : Value) (m : List (List Int)) (c : Bool) (hc : isB m = c) (w : World) (h : MatB B w v m) (hf : RowsFit m) :
    Calls Tryz.prog 12 #[v] w fun e w' => e = .returned (.bool c) ∧ Below w.heap.size w w' :=
  (isc_0 B v m c hc w h hf).mono fun e w' ⟨h1, q, h2⟩ => ⟨h1, by rw [h2]; exact below_drewN q⟩
theorem icm_wD (B : Nat) (v : Value) (m : List (List Int)) (c : Bool) (hc : isB m = c) (w : World) (h : MatB B w v m) (hf : RowsFit m) :
    Calls Tryz.prog 37 #[v] w fun e w' => e = .returned (.bool c) ∧ Below w.heap.size w w' :=
  (icm_any B v m w h hf).mono fun e w' ⟨h1, q, h2⟩ => ⟨by rw [h1]; exact ret_boolean hc, by rw [h2]; exact below_drewN q⟩
theorem str_ofl {s : ByteArray} {l : List UInt8} (h : s.data.toList = l) : s = ⟨l.toArray⟩ := by subst h; rfl
theorem size_of_l {s : ByteArray} {l : List UInt8} (h : s.data.toList = l) : s.size = l.length := by subst h; exact Array.length_toList.symm

set_option maxHeartbeats 2000000 in
set_option maxRecDepth 100000 in
theorem fms_yes (B : Nat) (v : Value) (m : List (List Int)) (w : World) (h : MatB B w v m) (hB : B ≤ w.heap.size) (hf : RowsFit m) (hI : IsC m) :
    Calls Tryz.prog 35 #[v] w fun e w' => e = .returned (.string ⟨(fmtT m).toArray⟩) ∧ Below w.heap.size w w' := by
  obtain ⟨a, cap, rfl⟩ := h.slice
  have hl := hf.1
  have HR := Lib.hid h; clear h
  have HF := Lib.hid hf; clear hf
  have hrows : Rows0 m m.length m.length := hI.1
  have hn4 := hI.2.2
  have HC := Lib.hid (isB_yes hI)
  have HE := Lib.hid (fun (i j : Nat) (hi : i < m.length) (hj : j < m.length) => isC_entry hI hi hj)
  have HRW := Lib.hid hrows
  have HPJ := Lib.hid (preT_join m)
  have HALL : Hid (Lib.join ((m.take m.length).map rowT) [59] = fmtT m) := Lib.hid (by rw [List.take_length]; rfl)
  clear hI hrows
  generalize hn : m.length = n at *
  unfold maxLen at hl
  have HN := Lib.hid hn; clear hn
  go_enter Tryz.func35, Tryz.ntmps35
  go_wp2_with fail
  refine (isc_wD B _ m true HC.out _ HR.out HF.out).mono ?_
  rintro e w1 ⟨rfl, hb1⟩
  have HB1 := Lib.hid hb1; clear hb1
  go_wp2_with fail
  go_loopw [3, 4] (fun sv i wr => ∃ (k : Nat) (s : ByteArray) (wq : World), wq = wr ∧ k ≤ n ∧ i = .int .i64 k ∧ sv = .string s ∧ Hid (s.data.toList = Lib.join ((m.take k).map rowT) [59]) ∧ s.size ≤ 50 * k ∧ Below w.heap.size w wq) (fun _ i _ => n - (intOf i).toNat)
  case atStart => exact ⟨0, ⟨#[]⟩, _, rfl, Nat.zero_le _, rfl, rfl, rfl, Nat.le_refl _, HB1.out⟩
  case round =>
    clear HB1
    clear w1
    obtain ⟨k, s, wq, rfl, hk, rfl, rfl, HS, hss, hb⟩ := hrel
    have HB := Lib.hid hb; clear hb
    by_cases hlt : k < n
    · obtain ⟨s1, hs1, hs2, hcase⟩ : ∃ s1 : ByteArray, s1.data.toList = preT m k ∧ s1.size ≤ 50 * k + 1 ∧ ((0 < k ∧ s1 = s ++ ⟨#[59]⟩) ∨ (¬ 0 < k ∧ s1 = s)) := by
        by_cases h0 : 0 < k
        · refine ⟨s ++ ⟨#[59]⟩, ?_, by rw [ba_app_size, ba_one]; omega, Or.inl ⟨h0, rfl⟩⟩
          rw [str_app, HS.out]; unfold preT; rw [if_neg (by omega)]
        · refine ⟨s, ?_, by omega, Or.inr ⟨h0, rfl⟩⟩
          obtain rfl : k = 0 := by omega
          rw [HS.out]; rfl
      have HS1 := Lib.hid hs1; clear hs1
      have hmid : ∀ (X : Prop), (s1 = s1 → X) → X := fun X h => h rfl
      clear hmid
      have hrl : (m.getD k []).length = n := HRW.out k hlt
      have hjn := HPJ.out k hlt
      have HJN := Lib.hid hjn; clear hjn
      rcases hcase with ⟨h0, he⟩ | ⟨h0, he⟩
      all_goals
        have HEQ := Lib.hid he.symm
        clear he
        go_wp2_with fail
        try rw [HEQ.out]
        go_loopw [3, 5] (fun sv i wr => ∃ (j : Nat) (t : ByteArray) (wq : World), wq = wr ∧ j ≤ n ∧ i = .int .i64 j ∧ sv = .string t ∧ Hid (t.data.toList = preT m k ++ Lib.join (((m.getD k []).take j).map Lib.itoa) [44]) ∧ t.size ≤ 50 * k + 1 + 3 * j ∧ Below w.heap.size w wq) (fun _ i _ => n - (intOf i).toNat)
        case atStart => exact ⟨0, s1, _, rfl, Nat.zero_le _, rfl, by first | rfl | rw [HEQ.out], by show Hid _; unfold Hid; rw [HS1.out]; simp [Lib.join_nil], hs2, HB.out⟩
        case round =>
          clear HB
          clear wq
          obtain ⟨j, t, wq, rfl, hj, rfl, rfl, HTT, hts, hb⟩ := hrel
          have HB := Lib.hid hb; clear hb
          by_cases hjn : j < n
          · obtain ⟨b, off, rb, roff, rcap, rfl, hc1, hx⟩ := (HR.out.below HB.out hB).entry HRW.out hlt hjn
            have hen := HE.out k j hlt hjn
            have hst := rowT_step (m.getD k []) j (by rw [hrl]; exact hjn)
            rw [show (m.getD k []).getD j 0 = entry m k j from rfl] at hst
            generalize entry m k j = x at *
            have hlx := itoa_short hen
            obtain ⟨t1, ht1, ht2, hcase1⟩ : ∃ t1 : ByteArray, t1.data.toList = preT m k ++ (if j = 0 then [] else Lib.join (((m.getD k []).take j).map Lib.itoa) [44] ++ [44]) ∧ t1.size ≤ 50 * k + 2 + 3 * j ∧ ((0 < j ∧ t1 = t ++ ⟨#[44]⟩) ∨ (¬ 0 < j ∧ t1 = t)) := by
              by_cases h1 : 0 < j
              · refine ⟨t ++ ⟨#[44]⟩, ?_, by rw [ba_app_size, ba_one]; omega, Or.inl ⟨h1, rfl⟩⟩
                rw [str_app, HTT.out, if_neg (by omega), List.append_assoc]
              · refine ⟨t, ?_, by omega, Or.inr ⟨h1, rfl⟩⟩
                obtain rfl : j = 0 := by omega
                rw [HTT.out]; simp [Lib.join_nil]
            have hfin : (t1 ++ ⟨(Lib.itoa x).toArray⟩).data.toList = preT m k ++ Lib.join (((m.getD k []).take (j + 1)).map Lib.itoa) [44] := by
              rw [str_app, ht1, List.append_assoc, hst]
            have hfs : (t1 ++ ⟨(Lib.itoa x).toArray⟩).size ≤ 50 * k + 1 + 3 * (j + 1) := by
              rw [ba_app_size, ba_list (Lib.itoa x)]
              rcases hcase1 with ⟨h1, rfl⟩ | ⟨h1, rfl⟩
              · rw [ba_app_size, ba_one]; omega
              · omega
            have hsx : (⟨(Lib.itoa x).toArray⟩ : ByteArray).size ≤ 2 := by rw [ba_list]; exact hlx
            have HFIN := Lib.hid hfin
            have HFS := Lib.hid hfs
            clear hfin hfs hst ht1 hlx
            rcases hcase1 with ⟨h1, he1⟩ | ⟨h1, he1⟩
            all_goals
              have HEQ1 := Lib.hid he1.symm
              clear he1
              go_wp2_with fail
              try rw [HEQ1.out]
              refine (fmts_any x _ (by omega) (by omega)).mono ?_
              rintro e w5 ⟨rfl, hb5⟩
              have HB5 := Lib.hid (HB.out.trans (hb5.mono HB.out.size))
              clear hb5
              generalize (⟨(Lib.itoa x).toArray⟩ : ByteArray) = y at *
              go_wp2_with fail
              try rw [HEQ1.out]
              exact ⟨⟨j + 1, _, _, rfl, by omega, by go_num, rfl, HFIN.out, HFS.out, HB5.out⟩, by simp [intOf]; omega⟩
          · obtain rfl : j = n := by omega
            have hfin : t.data.toList = Lib.join ((m.take (k + 1)).map rowT) [59] := by
              rw [HTT.out, List.take_of_length_le (by omega)]; exact HJN.out
            have HFIN := Lib.hid hfin
            clear hfin
            go_wp2_with fail
            exact ⟨⟨k + 1, _, _, rfl, by omega, by go_num, rfl, HFIN.out, by omega, HB.out⟩, by simp [intOf]; omega⟩
    · obtain rfl : k = n := by omega
      go_wp2_with fail
      go_ret
      refine ⟨?_, HB.out⟩
      exact congrArg (fun x => Ending.returned (.string x)) (str_ofl (HS.out.trans HALL.out))

set_option maxHeartbeats 1000000 in
theorem fms_any (B : Nat) (v : Value) (m : List (List Int)) (w : World) (h : MatB B w v m) (hB : B ≤ w.heap.size) (hf : RowsFit m) :
    Calls Tryz.prog 35 #[v] w fun e w' => e = .returned (.string ⟨(fmtM m).toArray⟩) ∧ Below w.heap.size w w' := by
  by_cases hI : IsC m
  · rw [fmtM_yes hI]
    exact fms_yes B v m w h hB hf hI
  · rw [fmtM_no hI]
    have HC := Lib.hid (isB_no hI)
    go_enter Tryz.func35, Tryz.ntmps35
    go_wp2_with fail
    refine (isc_wD B _ m false HC.out _ h hf).mono ?_
    rintro e w1 ⟨rfl, hb1⟩
    have HB1 := Lib.hid hb1; clear hb1
    go_wp2_with fail
    go_ret
    exact ⟨rfl, HB1.out⟩
end Go.Proofs.YtcmnkhblnlmfpaaGreatDoor
namespace Go.Proofs.YtcmnkhblnlmfpaaGreatDoor
open Go.ChangeShapes Go.WideShapes Go.ChangeAt Go.RowKit

abbrev cartLaid : List (String × DataW Unit) := Rows.fnCartansRow.laid

theorem tab_of_cart {W : World} (h : laidMetH Tryz.prog cartLaid W) : Lib.TabIs Tryz.prog W "internal/strconv.uint64pow10" .u64 Lib.pow10Tab := by
  rw [MakeChecks.laidMetH_plain _ _ _ (by kernel_rfl)] at h
  exact Lib.tabIs_of_head (g := 4) (t := 181) (e := 135) (n := 20) (by kernel_rfl) (by kernel_rfl) (by kernel_rfl) (by kernel_rfl) (by kernel_rfl) (by kernel_rfl) (laidMet.tail (laidMet.tail h))

theorem tab_below {W W' : World} {name : String} {k : IntKind} {zs : List Int} (h : Lib.TabIs Tryz.prog W name k zs) (hb : Below W.heap.size W W') : Lib.TabIs Tryz.prog W' name k zs := by
  unfold Lib.TabIs World.var? at h ⊢
  cases hg : Tryz.prog.globalNamed name with
  | none => rw [hg] at h; exact h
  | some g =>
    rw [hg] at h
    simp only [Option.bind_some] at h ⊢
    have hlt : g < W.heap.size := by
      cases hh : W.heap[g]? with
      | none => rw [hh] at h; cases h
      | some o => exact (Array.getElem?_eq_some_iff.1 hh).1
    rw [hb.block g hlt]; exact h
end Go.Proofs.YtcmnkhblnlmfpaaGreatDoor
