/-
  ParseInt of the model: what each call returns.
-/
import Derived.Test.YtcmnkhblnlmfpaaDoorParP
namespace Go.Proofs.YtcmnkhblnlmfpaaDoor
open Go.RowKit

theorem take_byte (s : ByteArray) (k : Nat) (h : k < s.size) : s.data.toList.take (k + 1) = s.data.toList.take k ++ [s[k]] := by
  rw [List.take_succ_eq_append_getElem (by simpa using h)]; rfl
theorem sv_step_yes (s : ByteArray) (k : Nat) (h : k < s.size) (hd : isDig (s[k])) : sv (s.data.toList.take (k + 1)) = sv (s.data.toList.take k) * 10 + ((s[k]).toNat - 48) := by
  rw [take_byte s k h, sv_snoc, if_pos hd]
theorem sv_step_no (s : ByteArray) (k : Nat) (h : k < s.size) (hd : ¬ isDig (s[k])) : sv (s.data.toList.take (k + 1)) = sv (s.data.toList.take k) := by
  rw [take_byte s k h, sv_snoc, if_neg hd]
theorem cnt_step_yes (s : ByteArray) (k : Nat) (h : k < s.size) (hd : isDig (s[k])) : cnt (s.data.toList.take (k + 1)) = cnt (s.data.toList.take k) + 1 := by
  rw [take_byte s k h, cnt_snoc, if_pos hd]
theorem cnt_step_no (s : ByteArray) (k : Nat) (h : k < s.size) (hd : ¬ isDig (s[k])) : cnt (s.data.toList.take (k + 1)) = cnt (s.data.toList.take k) := by
  rw [take_byte s k h, cnt_snoc, if_neg hd]
theorem cnt_take (s : ByteArray) (k : Nat) : cnt (s.data.toList.take k) ≤ k := Nat.le_trans (cnt_le _) (List.length_take_le _ _)
theorem sv_take_le (s : ByteArray) (k : Nat) (h : k ≤ 11) : sv (s.data.toList.take k) ≤ 99999999999 := by
  have h1 := sv_small (s.data.toList.take k) 11 (Nat.le_trans (cnt_take s k) h)
  have : (10 : Nat) ^ 11 = 100000000000 := by decide
  omega

set_option maxHeartbeats 400000 in
set_option maxRecDepth 100000 in
theorem pars_long (s : ByteArray) (w : World) (hs : s.size ≤ maxLen) (h11 : 11 ≤ s.size) :
    Calls Tryd.prog 37 #[.string s] w fun e w' => ParseAns s e ∧ Below w.heap.size w w' := by
  unfold maxLen at hs
  have hno : ¬ POk s.data.toList := fun h => by have := h.2.1; simp at this; omega
  have HNO := Lib.hid hno; clear hno
  go_enter Tryd.func37, Tryd.ntmps37
  go_wp2_with fail
  go_loop [4, 5, 6] (fun n c i => ∃ k : Nat, k ≤ 11 ∧ i = .int .i64 k ∧ n = .int .i64 (sv (s.data.toList.take k)) ∧ c = .int .i64 (cnt (s.data.toList.take k))) (fun _ _ i => 11 - (intOf i).toNat)
  case atStart => exact ⟨0, Nat.zero_le _, rfl, rfl, rfl⟩
  case round =>
    obtain ⟨k, hk, rfl, rfl, rfl⟩ := hrel
    have hsv := sv_take_le s k hk
    have hcn := cnt_take s k
    by_cases hlt : k < 11
    · have hks : k < s.size := by omega
      by_cases hd : isDig (s[k]'hks)
      · have e1 := sv_step_yes s k hks hd
        have e2 := cnt_step_yes s k hks hd
        have E1 := Lib.hid e1; clear e1
        have E2 := Lib.hid e2; clear e2
        have d1 := hd.1
        have d2 := hd.2
        clear hd
        go_wp2_with fail
        go_round
        case rel => exact ⟨k + 1, by omega, by go_num, by rw [E1.out]; go_num, by rw [E2.out]; go_num⟩
        case measure => simp [intOf]; omega
      · have e1 := sv_step_no s k hks hd
        have e2 := cnt_step_no s k hks hd
        have E1 := Lib.hid e1; clear e1
        have E2 := Lib.hid e2; clear e2
        have d1 : (s[k]'hks).toNat < 48 ∨ 57 < (s[k]'hks).toNat := by unfold isDig at hd; omega
        clear hd
        rcases d1 with d1 | d1
        all_goals
          go_wp2_with fail
          go_round
          case rel => exact ⟨k + 1, by omega, by go_num, by rw [E1.out], by rw [E2.out]⟩
          case measure => simp [intOf]; omega
    · obtain rfl : k = 11 := by omega
      go_wp2_with fail
      all_goals go_ret2
      all_goals exact ⟨ans_no HNO.out, Below.refl _ _⟩

theorem neq_no {l : List UInt8} {s : ByteArray} (h : l = s.data.toList) : (l == s.toList) = true := by
  rw [ByteArray.toList_eq, beq_iff_eq]; exact h
theorem neq_yes {l : List UInt8} {s : ByteArray} (h : ¬ l = s.data.toList) : (l == s.toList) = false := by
  rw [ByteArray.toList_eq, beq_eq_false_iff_ne]; exact h
theorem take_all (s : ByteArray) : s.data.toList.take s.size = s.data.toList := List.take_of_length_le (by simp)
theorem take_all11 (s : ByteArray) (h : s.size ≤ 10) : s.data.toList.take 11 = s.data.toList.take s.size := by
  rw [take_all, List.take_of_length_le (by simp; omega)]
theorem short_ok (s : ByteArray) (h10 : s.size ≤ 10) (h9 : cnt (s.data.toList.take s.size) ≤ 9) {v : Int} (hv : v = PV s.data.toList) (h : Lib.itoa v = s.data.toList) : POk s.data.toList :=
  ⟨by rw [take_all11 s h10]; exact h9, by simpa using h10, by rw [← hv]; exact h⟩
theorem short_bad (s : ByteArray) {v : Int} (hv : v = PV s.data.toList) (h : ¬ Lib.itoa v = s.data.toList) : ¬ POk s.data.toList := fun hp => h (by rw [hv]; exact hp.2.2)
theorem signed_byte (s : ByteArray) (h : 0 < s.size) : signed s.data.toList ↔ (s[0]).toNat = 45 := by
  unfold signed
  have e : s.data.toList[0]? = some (s[0]) := by rw [List.getElem?_eq_getElem (by simpa using h)]; rfl
  rw [List.head?_eq_getElem?, e, Option.some.injEq, u8_ext]; rfl
theorem pv_un (s : ByteArray) (h10 : s.size ≤ 10) (h : ¬ signed s.data.toList) : ((sv (s.data.toList.take s.size) : Nat) : Int) = PV s.data.toList := by
  unfold PV pval; rw [if_neg h, take_all11 s h10]
theorem pv_si (s : ByteArray) (h10 : s.size ≤ 10) (h : signed s.data.toList) : -((sv (s.data.toList.take s.size) : Nat) : Int) = PV s.data.toList := by
  unfold PV pval; rw [if_pos h, take_all11 s h10]

set_option maxHeartbeats 1000000 in
set_option maxRecDepth 100000 in
theorem pars_short (s : ByteArray) (w : World) (h10 : s.size ≤ 10) :
    Calls Tryd.prog 37 #[.string s] w fun e w' => ParseAns s e ∧ Below w.heap.size w w' := by
  go_enter Tryd.func37, Tryd.ntmps37
  go_wp2_with fail
  go_loop [4, 5, 6] (fun n c i => ∃ k : Nat, k ≤ s.size ∧ i = .int .i64 k ∧ n = .int .i64 (sv (s.data.toList.take k)) ∧ c = .int .i64 (cnt (s.data.toList.take k))) (fun _ _ i => 11 - (intOf i).toNat)
  case atStart => exact ⟨0, Nat.zero_le _, rfl, rfl, rfl⟩
  case round =>
    obtain ⟨k, hk, rfl, rfl, rfl⟩ := hrel
    have hsv := sv_take_le s k (by omega)
    have hcn := cnt_take s k
    by_cases hks : k < s.size
    · by_cases hd : isDig (s[k]'hks)
      · have e1 := sv_step_yes s k hks hd
        have e2 := cnt_step_yes s k hks hd
        have E1 := Lib.hid e1; clear e1
        have E2 := Lib.hid e2; clear e2
        have d1 := hd.1
        have d2 := hd.2
        clear hd
        go_wp2_with fail
        go_round
        case rel => exact ⟨k + 1, by omega, by go_num, by rw [E1.out]; go_num, by rw [E2.out]; go_num⟩
        case measure => simp [intOf]; omega
      · have e1 := sv_step_no s k hks hd
        have e2 := cnt_step_no s k hks hd
        have E1 := Lib.hid e1; clear e1
        have E2 := Lib.hid e2; clear e2
        have d1 : (s[k]'hks).toNat < 48 ∨ 57 < (s[k]'hks).toNat := by unfold isDig at hd; omega
        clear hd
        rcases d1 with d1 | d1
        all_goals
          go_wp2_with fail
          go_round
          case rel => exact ⟨k + 1, by omega, by go_num, by rw [E1.out], by rw [E2.out]⟩
          case measure => simp [intOf]; omega
    · obtain rfl : k = s.size := by omega
      by_cases h9 : 9 < cnt (s.data.toList.take s.size)
      · have hno : ¬ POk s.data.toList := fun h => by have := h.1; rw [take_all11 s h10] at this; omega
        have HNO := Lib.hid hno; clear hno
        go_wp2_with fail
        all_goals go_ret2
        all_goals exact ⟨ans_no HNO.out, Below.refl _ _⟩
      have h9' : cnt (s.data.toList.take s.size) ≤ 9 := by omega
      have H9 := Lib.hid h9
      have hd9 : decide (9 < ((cnt (s.data.toList.take s.size) : Nat) : Int)) = false := by rw [decide_eq_false_iff_not]; omega
      have hd10 : decide (10 < ((s.size : Nat) : Int)) = false := by rw [decide_eq_false_iff_not]; omega
      clear h9
      by_cases h0 : 0 < s.size
      · by_cases hsg : signed s.data.toList
        · have hb : ((s[0]'h0).toNat : Int) = 45 := by have := (signed_byte s h0).1 hsg; omega
          have hbq : (((s[0]'h0).toNat : Int) == 45) = true := by rw [beq_iff_eq]; exact hb
          have hpv := pv_si s h10 hsg
          have HPV := Lib.hid hpv; clear hpv hb hsg
          by_cases hok : Lib.itoa (-((sv (s.data.toList.take s.size) : Nat) : Int)) = s.data.toList
          · have hq := neq_no hok
            have HOK := Lib.hid hok; clear hok
            go_wp2_with (go_at_call 24; go_must (refine (fmts_any (-((sv (s.data.toList.take s.size) : Nat) : Int)) _ (by omega) (by omega)).mono ?_; rintro e w1 ⟨rfl, hb1⟩))
            go_ret2
            exact ⟨ans_yes (short_ok s h10 (by have := H9.out; omega) HPV.out HOK.out) HPV.out, hb1⟩
          · have hq := neq_yes hok
            have HOK := Lib.hid hok; clear hok
            go_wp2_with (go_at_call 24; go_must (refine (fmts_any (-((sv (s.data.toList.take s.size) : Nat) : Int)) _ (by omega) (by omega)).mono ?_; rintro e w1 ⟨rfl, hb1⟩))
            go_ret2
            exact ⟨ans_no (short_bad s HPV.out HOK.out), hb1⟩

        · have hb : ¬ ((s[0]'h0).toNat : Int) = 45 := fun e => hsg ((signed_byte s h0).2 (by omega))
          have hbq : (((s[0]'h0).toNat : Int) == 45) = false := by rw [beq_eq_false_iff_ne]; exact hb
          have hpv := pv_un s h10 hsg
          have HPV := Lib.hid hpv; clear hpv hb hsg
          by_cases hok : Lib.itoa (((sv (s.data.toList.take s.size) : Nat) : Int)) = s.data.toList
          · have hq := neq_no hok
            have HOK := Lib.hid hok; clear hok
            go_wp2_with (go_at_call 24; go_must (refine (fmts_any (((sv (s.data.toList.take s.size) : Nat) : Int)) _ (by omega) (by omega)).mono ?_; rintro e w1 ⟨rfl, hb1⟩))
            go_ret2
            exact ⟨ans_yes (short_ok s h10 (by have := H9.out; omega) HPV.out HOK.out) HPV.out, hb1⟩
          · have hq := neq_yes hok
            have HOK := Lib.hid hok; clear hok
            go_wp2_with (go_at_call 24; go_must (refine (fmts_any (((sv (s.data.toList.take s.size) : Nat) : Int)) _ (by omega) (by omega)).mono ?_; rintro e w1 ⟨rfl, hb1⟩))
            go_ret2
            exact ⟨ans_no (short_bad s HPV.out HOK.out), hb1⟩

      · have hsg : ¬ signed s.data.toList := fun h => by
          have := congrArg List.length (tail_cons h)
          simp at this; omega
        have hpv := pv_un s h10 hsg
        have HPV := Lib.hid hpv; clear hpv hsg
        by_cases hok : Lib.itoa (((sv (s.data.toList.take s.size) : Nat) : Int)) = s.data.toList
        · have hq := neq_no hok
          have HOK := Lib.hid hok; clear hok
          go_wp2_with (go_at_call 24; go_must (refine (fmts_any (((sv (s.data.toList.take s.size) : Nat) : Int)) _ (by omega) (by omega)).mono ?_; rintro e w1 ⟨rfl, hb1⟩))
          go_ret2
          exact ⟨ans_yes (short_ok s h10 (by have := H9.out; omega) HPV.out HOK.out) HPV.out, hb1⟩
        · have hq := neq_yes hok
          have HOK := Lib.hid hok; clear hok
          go_wp2_with (go_at_call 24; go_must (refine (fmts_any (((sv (s.data.toList.take s.size) : Nat) : Int)) _ (by omega) (by omega)).mono ?_; rintro e w1 ⟨rfl, hb1⟩))
          go_ret2
          exact ⟨ans_no (short_bad s HPV.out HOK.out), hb1⟩

theorem pars_any (s : ByteArray) (w : World) (hs : s.size ≤ maxLen) :
    Calls Tryd.prog 37 #[.string s] w fun e w' => ParseAns s e ∧ Below w.heap.size w w' := by
  rcases Nat.lt_or_ge s.size 11 with h | h
  · exact pars_short s w (by omega)
  · exact pars_long s w hs h
end Go.Proofs.YtcmnkhblnlmfpaaDoor
