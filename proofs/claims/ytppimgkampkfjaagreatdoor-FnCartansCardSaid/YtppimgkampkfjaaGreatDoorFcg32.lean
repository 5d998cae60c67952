/-
  ParseInt of the model: what each call returns.
  ParseInt of the program: what each call returns.
  ParseCartan of the model: what the call returns.
-/
import Derived.Test.YtppimgkampkfjaaGreatDoorFcg31
import Derived.Test.YtppimgkampkfjaaGreatDoorFcg30
namespace Go.Proofs.YtppimgkampkfjaaGreatDoor
open Go.RowKit

theorem take_byte (s : ByteArray) (k : Nat) (h : k < s.size) : s.data.toList.take (k + 1) = s.data.toList.take k ++ [s[k]] := by
  rw [List.take_succ_eq_append_getElem (by simpa using h)]; rfl
theorem sv_step_yes (s : ByteArray) (k : Nat) (h : k < s.size) (hd : isDig (s[k])) : sv (s.data.toList.take (k + 1)) = sv (s.data.toList.take k) * 10 + ((s[k]).toNat - 48) := by
  rw [take_byte s k h, sv_snoc, if_pos hd]
theorem sv_step_no (s : ByteArray) (k : Nat) (h : k < s.size) (hd : ¬ isDig (s[k])) : sv (s.data.toList.take (k + 1)) = sv (s.data.toList.take k) := by
  rw [take_byte s k h, sv_snoc, if_neg hd]
theorem cnt_step_yes (s : ByteArray) (k : Nat) (h : k < s.size) (hd : isDig (s[k])) : cnt (s.data.toList.take (k + 1)) = cnt (s.data.toList.take k) + 1 := by
  rw [take_byte s k h, cnt_snoc, if_pos hd]
theorem cnt_step_no (s : ByteArray) (k : Nat) (h : k < s.size) (hd : ¬ isDig (s[k])) : cnt (s.data.toList.take (k + 1)) = cnt (s.data.toList.take k) := by
  rw [take_byte s k h, cnt_snoc, if_neg hd]
theorem cnt_take (s : ByteArray) (k : Nat) : cnt (s.data.toList.take k) ≤ k := Nat.le_trans (cnt_le _) (List.length_take_le _ _)
theorem sv_take_le (s : ByteArray) (k : Nat) (h : k ≤ 11) : sv (s.data.toList.take k) ≤ 99999999999 := by
  have h1 := sv_small (s.data.toList.take k) 11 (Nat.le_trans (cnt_take s k) h)
  have : (10 : Nat) ^ 11 = 100000000000 := by decide
  omega

set_option maxHeartbeats 400000 in
set_option maxRecDepth 100000 in
theorem pars_long (s : ByteArray) (w : World) (hs : s.size ≤ maxLen) (h11 : 11 ≤ s.size) :
    Calls Tryz.prog 127 #[.string s] w fun e w' => ParseAns s e ∧ Below w.heap.size w w' := by
  unfold maxLen at hs
  have hno : ¬ POk s.data.toList := fun h => by have := h.2.1; simp at this; omega
  have HNO := Lib.hid hno; clear hno
  go_enter Tryz.func127, Tryz.ntmps127
  go_wp2_with fail
  go_loop [4, 5, 6] (fun n c i => ∃ k : Nat, k ≤ 11 ∧ i = .int .i64 k ∧ n = .int .i64 (sv (s.data.toList.take k)) ∧ c = .int .i64 (cnt (s.data.toList.take k))) (fun _ _ i => 11 - (intOf i).toNat)
  case atStart => exact ⟨0, Nat.zero_le _, rfl, rfl, rfl⟩
  case round =>
    obtain ⟨k, hk, rfl, rfl, rfl⟩ := hrel
    have hsv := sv_take_le s k hk
    have hcn := cnt_take s k
    by_cases hlt : k < 11
    · have hks : k < s.size := by omega
      by_cases hd : isDig (s[k]'hks)
      · have e1 := sv_step_yes s k hks hd
        have e2 := cnt_step_yes s k hks hd
        have E1 := Lib.hid e1; clear e1
        have E2 := Lib.hid e2; clear e2
        have d1 := hd.1
        have d2 := hd.2
        clear hd
        go_wp2_with fail
        go_round
        case rel => exact ⟨k + 1, by omega, by go_num, by rw [E1.out]; go_num, by rw [E2.out]; go_num⟩
        case measure => simp [intOf]; omega
      · have e1 := sv_step_no s k hks hd
        have e2 := cnt_step_no s k hks hd
        have E1 := Lib.hid e1; clear e1
        have E2 := Lib.hid e2; clear e2
        have d1 : (s[k]'hks).toNat < 48 ∨ 57 < (s[k]'hks).toNat := by unfold isDig at hd; omega
        clear hd
        rcases d1 with d1 | d1
        all_goals
          go_wp2_with fail
          go_round
          case rel => exact ⟨k + 1, by omega, by go_num, by rw [E1.out], by rw [E2.out]⟩
          case measure => simp [intOf]; omega
    · obtain rfl : k = 11 := by omega
      go_wp2_with fail
      all_goals go_ret2
      all_goals exact ⟨ans_no HNO.out, Below.refl _ _⟩

theorem neq_no {l : List UInt8} {s : ByteArray} (h : l = s.data.toList) : (l == s.toList) = true := by
  rw [ByteArray.toList_eq, beq_iff_eq]; exact h
theorem neq_yes {l : List UInt8} {s : ByteArray} (h : ¬ l = s.data.toList) : (l == s.toList) = false := by
  rw [ByteArray.toList_eq, beq_eq_false_iff_ne]; exact h
theorem take_all (s : ByteArray) : s.data.toList.take s.size = s.data.toList := List.take_of_length_le (by simp)
theorem take_all11 (s : ByteArray) (h : s.size ≤ 10) : s.data.toList.take 11 = s.data.toList.take s.size := by
  rw [take_all, List.take_of_length_le (by simp; omega)]
theorem short_ok (s : ByteArray) (h10 : s.size ≤ 10) (h9 : cnt (s.data.toList.take s.size) ≤ 9) {v : Int} (hv : v = PV s.data.toList) (h : Lib.itoa v = s.data.toList) : POk s.data.toList :=
  ⟨by rw [take_all11 s h10]; exact h9, by simpa using h10, by rw [← hv]; exact h⟩
theorem short_bad (s : ByteArray) {v : Int} (hv : v = PV s.data.toList) (h : ¬ Lib.itoa v = s.data.toList) : ¬ POk s.data.toList := fun hp => h (by rw [hv]; exact hp.2.2)
theorem signed_byte (s : ByteArray) (h : 0 < s.size) : signed s.data.toList ↔ (s[0]).toNat = 45 := by
  unfold signed
  have e : s.data.toList[0]? = some (s[0]) := by rw [List.getElem?_eq_getElem (by simpa using h)]; rfl
  rw [List.head?_eq_getElem?, e, Option.some.injEq, u8_ext]; rfl
theorem pv_un (s : ByteArray) (h10 : s.size ≤ 10) (h : ¬ signed s.data.toList) : ((sv (s.data.toList.take s.size) : Nat) : Int) = PV s.data.toList := by
  unfold PV pval; rw [if_neg h, take_all11 s h10]
theorem pv_si (s : ByteArray) (h10 : s.size ≤ 10) (h : signed s.data.toList) : -((sv (s.data.toList.take s.size) : Nat) : Int) = PV s.data.toList := by
  unfold PV pval; rw [if_pos h, take_all11 s h10]

set_option maxHeartbeats 1000000 in
set_option maxRecDepth 100000 in
theorem pars_short (s : ByteArray) (w : World) (h10 : s.size ≤ 10) :
    Calls Tryz.prog 127 #[.string s] w fun e w' => ParseAns s e ∧ Below w.heap.size w w' := by
  go_enter Tryz.func127, Tryz.ntmps127
  go_wp2_with fail
  go_loop [4, 5, 6] (fun n c i => ∃ k : Nat, k ≤ s.size ∧ i = .int .i64 k ∧ n = .int .i64 (sv (s.data.toList.take k)) ∧ c = .int .i64 (cnt (s.data.toList.take k))) (fun _ _ i => 11 - (intOf i).toNat)
  case atStart => exact ⟨0, Nat.zero_le _, rfl, rfl, rfl⟩
  case round =>
    obtain ⟨k, hk, rfl, rfl, rfl⟩ := hrel
    have hsv := sv_take_le s k (by omega)
    have hcn := cnt_take s k
    by_cases hks : k < s.size
    · by_cases hd : isDig (s[k]'hks)
      · have e1 := sv_step_yes s k hks hd
        have e2 := cnt_step_yes s k hks hd
        have E1 := Lib.hid e1; clear e1
        have E2 := Lib.hid e2; clear e2
        have d1 := hd.1
        have d2 := hd.2
        clear hd
        go_wp2_with fail
        go_round
        case rel => exact ⟨k + 1, by omega, by go_num, by rw [E1.out]; go_num, by rw [E2.out]; go_num⟩
        case measure => simp [intOf]; omega
      · have e1 := sv_step_no s k hks hd
        have e2 := cnt_step_no s k hks hd
        have E1 := Lib.hid e1; clear e1
        have E2 := Lib.hid e2; clear e2
        have d1 : (s[k]'hks).toNat < 48 ∨ 57 < (s[k]'hks).toNat := by unfold isDig at hd; omega
        clear hd
        rcases d1 with d1 | d1
        all_goals
          go_wp2_with fail
          go_round
          case rel => exact ⟨k + 1, by omega, by go_num, by rw [E1.out], by rw [E2.out]⟩
          case measure => simp [intOf]; omega
    · obtain rfl : k = s.size := by omega
      by_cases h9 : 9 < cnt (s.data.toList.take s.size)
      · have hno : ¬ POk s.data.toList := fun h => by have := h.1; rw [take_all11 s h10] at this; omega
        have HNO := Lib.hid hno; clear hno
        go_wp2_with fail
        all_goals go_ret2
        all_goals exact ⟨ans_no HNO.out, Below.refl _ _⟩
      have h9' : cnt (s.data.toList.take s.size) ≤ 9 := by omega
      have H9 := Lib.hid h9
      have hd9 : decide (9 < ((cnt (s.data.toList.take s.size) : Nat) : Int)) = false := by rw [decide_eq_false_iff_not]; omega
      have hd10 : decide (10 < ((s.size : Nat) : Int)) = false := by rw [decide_eq_false_iff_not]; omega
      clear h9
      by_cases h0 : 0 < s.size
      · by_cases hsg : signed s.data.toList
        · have hb : ((s[0]'h0).toNat : Int) = 45 := by have := (signed_byte s h0).1 hsg; omega
          have hbq : (((s[0]'h0).toNat : Int) == 45) = true := by rw [beq_iff_eq]; exact hb
          have hpv := pv_si s h10 hsg
          have HPV := Lib.hid hpv; clear hpv hb hsg
          by_cases hok : Lib.itoa (-((sv (s.data.toList.take s.size) : Nat) : Int)) = s.data.toList
          · have hq := neq_no hok
            have HOK := Lib.hid hok; clear hok
            go_wp2_with (go_at_call 78; go_must (refine (fmts_any (-((sv (s.data.toList.take s.size) : Nat) : Int)) _ (by omega) (by omega)).mono ?_; rintro e w1 ⟨rfl, hb1⟩))
            go_ret2
            exact ⟨ans_yes (short_ok s h10 (by have := H9.out; omega) HPV.out HOK.out) HPV.out, hb1⟩
          · have hq := neq_yes hok
            have HOK := Lib.hid hok; clear hok
            go_wp2_with (go_at_call 78; go_must (refine (fmts_any (-((sv (s.data.toList.take s.size) : Nat) : Int)) _ (by omega) (by omega)).mono ?_; rintro e w1 ⟨rfl, hb1⟩))
            go_ret2
            exact ⟨ans_no (short_bad s HPV.out HOK.out), hb1⟩

        · have hb : ¬ ((s[0]'h0).toNat : Int) = 45 := fun e => hsg ((signed_byte s h0).2 (by omega))
          have hbq : (((s[0]'h0).toNat : Int) == 45) = false := by rw [beq_eq_false_iff_ne]; exact hb
          have hpv := pv_un s h10 hsg
          have HPV := Lib.hid hpv; clear hpv hb hsg
          by_cases hok : Lib.itoa (((sv (s.data.toList.take s.size) : Nat) : Int)) = s.data.toList
          · have hq := neq_no hok
            have HOK := Lib.hid hok; clear hok
            go_wp2_with (go_at_call 78; go_must (refine (fmts_any (((sv (s.data.toList.take s.size) : Nat) : Int)) _ (by omega) (by omega)).mono ?_; rintro e w1 ⟨rfl, hb1⟩))
            go_ret2
            exact ⟨ans_yes (short_ok s h10 (by have := H9.out; omega) HPV.out HOK.out) HPV.out, hb1⟩
          · have hq := neq_yes hok
            have HOK := Lib.hid hok; clear hok
            go_wp2_with (go_at_call 78; go_must (refine (fmts_any (((sv (s.data.toList.take s.size) : Nat) : Int)) _ (by omega) (by omega)).mono ?_; rintro e w1 ⟨rfl, hb1⟩))
            go_ret2
            exact ⟨ans_no (short_bad s HPV.out HOK.out), hb1⟩

      · have hsg : ¬ signed s.data.toList := fun h => by
          have := congrArg List.length (tail_cons h)
          simp at this; omega
        have hpv := pv_un s h10 hsg
        have HPV := Lib.hid hpv; clear hpv hsg
        by_cases hok : Lib.itoa (((sv (s.data.toList.take s.size) : Nat) : Int)) = s.data.toList
        · have hq := neq_no hok
          have HOK := Lib.hid hok; clear hok
          go_wp2_with (go_at_call 78; go_must (refine (fmts_any (((sv (s.data.toList.take s.size) : Nat) : Int)) _ (by omega) (by omega)).mono ?_; rintro e w1 ⟨rfl, hb1⟩))
          go_ret2
          exact ⟨ans_yes (short_ok s h10 (by have := H9.out; omega) HPV.out HOK.out) HPV.out, hb1⟩
        · have hq := neq_yes hok
          have HOK := Lib.hid hok; clear hok
          go_wp2_with (go_at_call 78; go_must (refine (fmts_any (((sv (s.data.toList.take s.size) : Nat) : Int)) _ (by omega) (by omega)).mono ?_; rintro e w1 ⟨rfl, hb1⟩))
          go_ret2
          exact ⟨ans_no (short_bad s HPV.out HOK.out), hb1⟩

theorem pars_any (s : ByteArray) (w : World) (hs : s.size ≤ maxLen) :
    Calls Tryz.prog 127 #[.string s] w fun e w' => ParseAns s e ∧ Below w.heap.size w w' := by
  rcases Nat.lt_or_ge s.size 11 with h | h
  · exact pars_short s w (by omega)
  · exact pars_long s w hs h
end Go.Proofs.YtppimgkampkfjaaGreatDoor
namespace Go.Proofs.YtppimgkampkfjaaGreatDoor
open Go.RowKit

theorem trim_lib (l : List UInt8) : Lib.trimPrefix l [45] = trim l := by
  unfold Lib.trimPrefix Lib.hasPrefix trim signed
  cases l with
  | nil => rfl
  | cons a r =>
    by_cases h : a = 45
    · subst h; simp [List.isPrefixOf]
    · have h' : ¬ (45 : UInt8) = a := fun e => h e.symm
      simp [List.isPrefixOf, h, h']

theorem trim_any (s : ByteArray) (w : World) :
    Calls Tryz.prog 124 #[.string s, .string ⟨#[45]⟩] w fun e w' => ∃ d : ByteArray, e = .returned (.string d) ∧ d.data.toList = trim s.data.toList ∧ w = w' :=
  (Tryz.strings_TrimPrefix s ⟨#[45]⟩ w).mono fun e w' ⟨he, hw⟩ => ⟨_, he, by rw [← trim_lib], hw.symm⟩

/-- The digits so far. -/
def PRel (d : ByteArray) (k : Nat) : Prop := allDig (d.data.toList.take k)
theorem prel_step {d : ByteArray} {k : Nat} (h : k < d.size) (hr : PRel d k) (hd : isDig (d[k])) : PRel d (k + 1) := by
  unfold PRel
  rw [take_byte d k h]
  intro b hb
  rcases List.mem_append.1 hb with hb | hb
  · exact hr b hb
  · simp only [List.mem_singleton] at hb; rw [hb]; exact hd
theorem bad_digit {s d : ByteArray} {k : Nat} (ht : d.data.toList = trim s.data.toList) (h : k < d.size) (hd : ¬ isDig (d[k])) : ¬ POk s.data.toList := fun hp => by
  have ha := (pok_tok hp).2
  rw [← ht] at ha
  refine hd (ha _ ?_)
  have : d.data.toList[k]'(by simpa using h) = d[k] := rfl
  rw [← this]; exact List.getElem_mem _
theorem trim_eq {s d : ByteArray} (ht : d.data.toList = trim s.data.toList) (h : ¬ signed s.data.toList) : d = s := by
  have e : trim s.data.toList = s.data.toList := if_neg h
  rw [e] at ht
  cases d; cases s
  congr 1
  exact Array.toList_inj.1 ht
theorem trim_ne {s d : ByteArray} (ht : d.data.toList = trim s.data.toList) (h : signed s.data.toList) : ¬ d.data.toList = s.data.toList := by
  intro e
  rw [e] at ht
  have h1 := tail_cons h
  have h2 : trim s.data.toList = s.data.toList.tail := if_pos h
  have h3 := congrArg List.length (ht.trans h2)
  have h4 := congrArg List.length h1
  simp only [List.length_cons] at h4
  omega
theorem it_pos1 (s : ByteArray) (w : World) (p : Nat) : (w.iter s p).iterPos w.heap.size = p := World.iterPos_iter w s p
theorem it_below1 (s : ByteArray) (w : World) (p : Nat) : Below w.heap.size w (w.iter s p) := (Below.refl _ _).alloc (Nat.le_refl _) _

theorem tok_of {s d : ByteArray} (ht : d.data.toList = trim s.data.toList) (h9 : d.size ≤ 9) (hr : PRel d d.size) : TOk s.data.toList := by
  unfold PRel at hr
  rw [take_all] at hr
  refine ⟨?_, ?_⟩
  · rw [← ht]; simpa using h9
  · rw [← ht]; exact hr
theorem fin_yes {s d : ByteArray} (ht : d.data.toList = trim s.data.toList) (h : TOk s.data.toList) {v : Int} (hv : v = pval s.data.toList (sv (d.data.toList.take d.size))) (hok : Lib.itoa v = s.data.toList) : POk s.data.toList ∧ v = PV s.data.toList := by
  rw [take_all, ht] at hv
  exact ⟨(pok_iff h).2 (by rw [← hv]; exact hok), by rw [hv, pv_tok h]⟩
theorem fin_no {s d : ByteArray} (ht : d.data.toList = trim s.data.toList) (h : TOk s.data.toList) {v : Int} (hv : v = pval s.data.toList (sv (d.data.toList.take d.size))) (hok : ¬ Lib.itoa v = s.data.toList) : ¬ POk s.data.toList := fun hp => by
  rw [take_all, ht] at hv
  exact hok (by rw [hv]; exact (pok_iff h).1 hp)
theorem ndig_i32 {b : UInt8} (h : ¬ isDig b) : b.toNat < 48 ∨ 57 < b.toNat := by unfold isDig at h; omega

set_option maxHeartbeats 1000000 in
set_option maxRecDepth 100000 in
theorem pari_any (s : ByteArray) (w : World) (hs : s.size ≤ maxLen) (htab : Lib.TabIs Tryz.prog w "internal/strconv.uint64pow10" .u64 Lib.pow10Tab) :
    Calls Tryz.prog 77 #[.string s] w fun e w' => ParseAns s e ∧ Below w.heap.size w w' := by
  unfold maxLen at hs
  have HT := Lib.hid htab; clear htab
  go_enter Tryz.func77, Tryz.ntmps77
  go_wp2_with fail
  refine (trim_any s _).mono ?_
  rintro e w' ⟨d, rfl, ht, rfl⟩
  have HD := Lib.hid ht; clear ht
  have hds : d.size ≤ 9223372036854775807 := by
    have h1 := congrArg List.length HD.out
    have h2 : (trim s.data.toList).length ≤ s.data.toList.length := by unfold trim; split <;> simp
    simp at h1 h2; omega
  by_cases h9 : 9 < d.size
  · have hno : ¬ POk s.data.toList := fun hp => by
      have h1 := (pok_tok hp).1
      rw [← HD.out] at h1
      simp at h1; omega
    have HNO := Lib.hid hno; clear hno
    go_wp2_with fail
    go_ret2
    exact ⟨ans_no HNO.out, Below.refl _ _⟩
  have h9' : d.size ≤ 9 := by omega
  clear h9
  go_wp2_with fail
  go_loopw [5] (fun n wr => ∃ k : Nat, k ≤ d.size ∧ wr = w.iter d k ∧ n = .int .i64 (sv (d.data.toList.take k)) ∧ PRel d k) (fun _ wr => d.size - wr.iterPos w.heap.size)
  case atStart => exact ⟨0, Nat.zero_le _, rfl, rfl, fun b hb => by simp at hb⟩
  case round =>
    obtain ⟨k, hk, rfl, rfl, hr⟩ := hrel
    have HR := Lib.hid hr; clear hr
    have hsv := sv_take_le d k (by omega)
    by_cases hlt : k < d.size
    · by_cases ha : (d[k]'hlt).toNat < 128
      · have hnx := fun ty => run_next_ascii (P := Tryz.prog) w d k ty hlt ha
        by_cases hd : isDig (d[k]'hlt)
        · have e1 := sv_step_yes d k hlt hd
          have E1 := Lib.hid e1; clear e1
          have hp := prel_step hlt HR.out hd
          have HP := Lib.hid hp; clear hp
          have d1 := hd.1
          have d2 := hd.2
          clear hd
          go_wp2_with fail
          refine ⟨⟨k + 1, by omega, rfl, by rw [E1.out]; go_num, HP.out⟩, ?_⟩
          rw [it_pos1, it_pos1]; omega
        · have hno := bad_digit HD.out hlt hd
          have HNO := Lib.hid hno; clear hno
          rcases ndig_i32 hd with d1 | d1
          all_goals
            clear hd
            go_wp2_with fail
            go_ret2
            exact ⟨ans_no HNO.out, it_below1 _ _ _⟩
      · have hnx := fun ty => run_next_any (P := Tryz.prog) w d k ty hlt
        have hdh := (decode_high d k hlt (by omega)).1
        have hno := bad_digit HD.out hlt (by unfold isDig; omega)
        have HNO := Lib.hid hno; clear hno
        go_wp2_with fail
        go_ret2
        exact ⟨ans_no HNO.out, it_below1 _ _ _⟩
    · obtain rfl : k = d.size := by omega
      have hnx := fun ty => run_next_end (P := Tryz.prog) w d d.size ty hlt
      have htok := tok_of HD.out h9' HR.out
      have HTOK := Lib.hid htok; clear htok
      have htab2 := tab_below HT.out (it_below1 d w d.size)
      have HT2 := Lib.hid htab2; clear htab2
      by_cases hsg : signed s.data.toList
      · have hv : -((sv (d.data.toList.take d.size) : Nat) : Int) = pval s.data.toList (sv (d.data.toList.take d.size)) := (if_pos hsg).symm
        have hne := trim_ne HD.out hsg
        have HV := Lib.hid hv; clear hv
        have hq : (d.toList == s.toList) = false := by rw [ByteArray.toList_eq, ByteArray.toList_eq, beq_eq_false_iff_ne]; exact hne
        clear hne hsg
        by_cases hok : Lib.itoa (-((sv (d.data.toList.take d.size) : Nat) : Int)) = s.data.toList
        · have hf := fin_yes HD.out HTOK.out HV.out hok
          have hz := neq_no hok
          have HF := Lib.hid hf; clear hf hok
          go_wp2_with (go_at_call 74; go_must (refine (fmti_any (-((sv (d.data.toList.take d.size) : Nat) : Int)) _ (by omega) (by omega) HT2.out).mono ?_; rintro e w1 ⟨rfl, hb1⟩))
          go_ret2
          exact ⟨ans_yes HF.out.1 HF.out.2, (it_below1 _ _ _).trans (hb1.mono (it_below1 d w d.size).size)⟩
        · have hf := fin_no HD.out HTOK.out HV.out hok
          have hz := neq_yes hok
          have HF := Lib.hid hf; clear hf hok
          go_wp2_with (go_at_call 74; go_must (refine (fmti_any (-((sv (d.data.toList.take d.size) : Nat) : Int)) _ (by omega) (by omega) HT2.out).mono ?_; rintro e w1 ⟨rfl, hb1⟩))
          go_ret2
          exact ⟨ans_no HF.out, (it_below1 _ _ _).trans (hb1.mono (it_below1 d w d.size).size)⟩
      · have hv : ((sv (d.data.toList.take d.size) : Nat) : Int) = pval s.data.toList (sv (d.data.toList.take d.size)) := (if_neg hsg).symm
        have hne := trim_eq HD.out hsg
        have HV := Lib.hid hv; clear hv
        have hq : (d.toList == s.toList) = true := by rw [ByteArray.toList_eq, ByteArray.toList_eq, beq_iff_eq, hne]
        clear hne hsg
        by_cases hok : Lib.itoa (((sv (d.data.toList.take d.size) : Nat) : Int)) = s.data.toList
        · have hf := fin_yes HD.out HTOK.out HV.out hok
          have hz := neq_no hok
          have HF := Lib.hid hf; clear hf hok
          go_wp2_with (go_at_call 74; go_must (refine (fmti_any (((sv (d.data.toList.take d.size) : Nat) : Int)) _ (by omega) (by omega) HT2.out).mono ?_; rintro e w1 ⟨rfl, hb1⟩))
          go_ret2
          exact ⟨ans_yes HF.out.1 HF.out.2, (it_below1 _ _ _).trans (hb1.mono (it_below1 d w d.size).size)⟩
        · have hf := fin_no HD.out HTOK.out HV.out hok
          have hz := neq_yes hok
          have HF := Lib.hid hf; clear hf hok
          go_wp2_with (go_at_call 74; go_must (refine (fmti_any (((sv (d.data.toList.take d.size) : Nat) : Int)) _ (by omega) (by omega) HT2.out).mono ?_; rintro e w1 ⟨rfl, hb1⟩))
          go_ret2
          exact ⟨ans_no HF.out, (it_below1 _ _ _).trans (hb1.mono (it_below1 d w d.size).size)⟩
end Go.Proofs.YtppimgkampkfjaaGreatDoor
namespace Go.Proofs.YtppimgkampkfjaaGreatDoor
open Go.RowKit

open Classical in
noncomputable def numL (l : List UInt8) : Int := if POk l then PV l else 9
theorem numL_yes {l : List UInt8} (h : POk l) : numL l = PV l := if_pos h
theorem numL_no {l : List UInt8} (h : ¬ POk l) : numL l = 9 := if_neg h
set_option maxHeartbeats 1000000 in
theorem pnum_any (s : ByteArray) (w : World) (hs : s.size ≤ maxLen) :
    Calls Tryz.prog 87 #[.string s, .int .i64 9] w fun e w' => e = .returned (.int .i64 (numL s.data.toList)) ∧ Below w.heap.size w w' := by
  go_enter Tryz.func87, Tryz.ntmps87
  go_wp2_with fail
  refine (pars_any s _ hs).mono ?_
  rintro e w1 ⟨ha, hb1⟩
  have HB1 := Lib.hid hb1; clear hb1
  rcases ha with ⟨h, rfl⟩ | ⟨h, rfl⟩
  · have HN := Lib.hid (numL_yes h)
    clear h
    generalize PV s.data.toList = v at *
    go_wp2_with fail
    go_ret
    exact ⟨ret_int HN.out.symm, HB1.out⟩
  · have HN := Lib.hid (numL_no h)
    clear h
    go_wp2_with fail
    go_ret
    exact ⟨ret_int HN.out.symm, HB1.out⟩

noncomputable def rowN (l : List UInt8) : List Int := (cutLD 44 l).map numL
noncomputable def parM (l : List UInt8) : List (List Int) := (cutLD 59 l).map rowN
theorem rowN_len (l : List UInt8) : (rowN l).length ≤ l.length + 1 := by have := cutL_lenD 44 l; simp [rowN]; omega
theorem parM_len (l : List UInt8) : (parM l).length ≤ l.length + 1 := by have := cutL_lenD 59 l; simp [parM]; omega
def PcOk (l : List UInt8) : Prop := l ≠ [] ∧ fmtM (parM l) = l
open Classical in
noncomputable def pcB (l : List UInt8) : Bool := decide (PcOk l)
open Classical in
theorem pcB_yes {l : List UInt8} (h : PcOk l) : pcB l = true := decide_eq_true h
open Classical in
theorem pcB_no {l : List UInt8} (h : ¬ PcOk l) : pcB l = false := decide_eq_false h
noncomputable def pcM (l : List UInt8) : List (List Int) := if pcB l = true then parM l else []
theorem pcM_yes {l : List UInt8} (h : PcOk l) : pcM l = parM l := if_pos (pcB_yes h)
theorem pcM_no {l : List UInt8} (h : ¬ PcOk l) : pcM l = [] := by unfold pcM; rw [pcB_no h]; rfl
theorem toB_get (xs : List (List UInt8)) (j : Nat) (h : j < (toBD xs).length) : (toBD xs)[j] = ⟨(xs[j]'(by simpa [toBD] using h)).toArray⟩ := by simp [toBD]
theorem rowN_snoc (l : List UInt8) (j : Nat) (h : j < (cutLD 44 l).length) : (rowN l).take j ++ [numL (cutLD 44 l)[j]] = (rowN l).take (j + 1) := by
  rw [List.take_succ_eq_append_getElem (by simpa [rowN] using h)]; simp [rowN]
theorem parM_snoc (l : List UInt8) (k : Nat) (h : k < (cutLD 59 l).length) : (parM l).take k ++ [rowN (cutLD 59 l)[k]] = (parM l).take (k + 1) := by
  rw [List.take_succ_eq_append_getElem (by simpa [parM] using h)]; simp [parM]
theorem makesM2_no {w w' : World} {x : Value} {m : List (List Int)} {c : Bool} (hm : m = []) (hc : false = c) (h : MatI w.heap.size w'.heap.size w' x []) (hb : Below w.heap.size w w') : MakesM2 w m (.bool c) (.returned (.tuple #[x, .bool false])) w' :=
  ⟨x, by rw [hc], by rw [hm]; exact ⟨h, Nat.le_refl _⟩, hb⟩
theorem str_empty {s : ByteArray} (h : s.data.toList = []) : s.toList.isEmpty = true := by rw [ByteArray.toList_eq, h]; rfl
theorem str_full {s : ByteArray} (h : ¬ s.data.toList = []) : s.toList.isEmpty = false := by
  rw [ByteArray.toList_eq]; cases hs : s.data.toList with
  | nil => exact absurd hs h
  | cons a l => rfl

set_option maxHeartbeats 4000000 in
set_option maxRecDepth 100000 in
theorem pcs_any (s : ByteArray) (w : World) (hs : s.size ≤ 1048576) :
    Calls Tryz.prog 17 #[.string s] w (MakesM2 w (pcM s.data.toList) (.bool (pcB s.data.toList))) := by
  obtain ⟨l, hl⟩ : ∃ l, l = s.data.toList := ⟨_, rfl⟩
  have hsl : s.size = l.length := by rw [hl]; exact Array.length_toList.symm
  have hcn := cutL_lenD 59 l
  have HCM := Lib.hid (cutL_mem_len 59 l)
  have HSN := Lib.hid (parM_snoc l)
  have HPL : Hid ((parM l).length = (cutLD 59 l).length) := Lib.hid (by simp [parM])
  have HCB : Hid (cutBD 59 s = toBD (cutLD 59 l)) := Lib.hid (by rw [hl]; rfl)
  rw [← hl]
  have HL := Lib.hid hl; clear hl
  have hnum : ((59 : UInt8).toNat : Int) = 59 := rfl
  have hct := cut_anyD 59 s (w.alloc (.cells #[] 39)) hs
  rw [hnum, HCB.out] at hct
  have HCT := Lib.hid hct
  clear hct hnum
  obtain ⟨n, hn⟩ : ∃ n, (toBD (cutLD 59 l)).length = n := ⟨_, rfl⟩
  have hn2 : (cutLD 59 l).length = n := by rw [← hn]; simp [toBD]
  have HN := Lib.hid hn
  have HN2 := Lib.hid hn2
  clear hn
  rw [hn2] at hcn
  clear hn2
  go_enter Tryz.func17, Tryz.ntmps17
  go_wp2_with fail
  refine HCT.out.mono ?_
  rintro e w1 ⟨x1, rfl, hr1, hb1⟩
  obtain ⟨ra1, rc1, rfl⟩ := hr1.slice
  rw [HN.out] at hr1 ⊢
  have HR1 := Lib.hid hr1
  have hal : Below w.heap.size w (w.alloc (.cells #[] 39)) := (Below.refl _ _).alloc (Nat.le_refl _) _
  have hM0 := (mat_empty w).step hb1
  have HM0 := Lib.hid hM0
  have HB0 := Lib.hid (hal.trans (hb1.mono hal.size))
  have HT1 := Lib.hid hr1
  clear hr1 hM0 hal hb1
  go_wp2_with fail
  go_loopw [4, 6] (fun o i wr => ∃ (k : Nat) (wq : World), wq = wr ∧ k ≤ n ∧ i = .int .i64 k ∧ MatI w.heap.size wq.heap.size wq o ((parM l).take k) ∧ Below w.heap.size w wq ∧ RowTD (w.alloc (.cells #[] 39)).heap.size wq.heap.size wq (.slice ra1 n rc1) (toBD (cutLD 59 l))) (fun _ i _ => n - (intOf i).toNat)
  case atStart => exact ⟨0, _, rfl, Nat.zero_le _, rfl, HM0.out, HB0.out, HT1.out⟩
  case round =>
    clear HM0 HB0 HR1 HT1
    obtain ⟨k, wq, rfl, hk, rfl, hM, hb, ht⟩ := hrel
    have HM := Lib.hid hM; clear hM
    have hsq := hb.size
    have HB := Lib.hid hb; clear hb
    have HT := Lib.hid ht; clear ht
    by_cases hlt : k < n
    · have hkl : k < (cutLD 59 l).length := by rw [HN2.out]; exact hlt
      have hkb : k < (toBD (cutLD 59 l)).length := by rw [HN.out]; exact hlt
      obtain ⟨g1, rfl, hg1, hcell⟩ := HT.out.get hkb
      rw [toB_get] at hcell
      have hcell' : (wq.alloc (.cells #[] 3)).cell? ⟨g1, k, none⟩ = _ := (World.cell?_alloc_past _ _ _ hg1).trans hcell
      have hml := HCM.out _ (List.getElem_mem hkl)
      have HST := Lib.hid (HSN.out k hkl)
      have hpl : ((parM l).take k).length ≤ 1048577 := by rw [List.length_take, HPL.out, HN2.out]; omega
      have HPK := Lib.hid hpl
      clear hpl
      generalize (cutLD 59 l)[k] = r at *
      have hcn2 := cutL_lenD 44 r
      have HCM2 := Lib.hid (cutL_mem_len 44 r)
      have HSN2 := Lib.hid (rowN_snoc r)
      have HALL2 : Hid ((rowN r).take (cutLD 44 r).length = rowN r) := Lib.hid (List.take_of_length_le (by simp [rowN]))
      have hct := cut_anyD 44 ⟨r.toArray⟩ (wq.alloc (.cells #[] 3)) (by rw [ba_list]; omega)
      rw [show ((44 : UInt8).toNat : Int) = 44 from rfl, show cutBD 44 ⟨r.toArray⟩ = toBD (cutLD 44 r) from rfl] at hct
      have HCT2 := Lib.hid hct
      clear hct
      obtain ⟨n2, hn⟩ : ∃ n, (toBD (cutLD 44 r)).length = n := ⟨_, rfl⟩
      have hn2 : (cutLD 44 r).length = n2 := by rw [← hn]; simp [toBD]
      have HM1 := Lib.hid hn
      have HM2 := Lib.hid hn2
      clear hn
      rw [hn2] at hcn2 HALL2
      clear hn2
      go_wp2_with fail
      clear hcell' hcell
      refine HCT2.out.mono ?_
      rintro e w3 ⟨x3, rfl, hr3, hb3⟩
      obtain ⟨ra3, rc3, rfl⟩ := hr3.slice
      rw [HM1.out] at hr3 ⊢
      have HR3 := Lib.hid hr3
      have hal : Below wq.heap.size wq (wq.alloc (.cells #[] 3)) := (Below.refl _ _).alloc (Nat.le_refl _) _
      have hR0 := (row_empty wq).step hb3
      have HR0 := Lib.hid hR0
      have hb4 := hal.trans (hb3.mono hal.size)
      have HB4 := Lib.hid hb4
      clear hr3 hR0 hal hb3 hb4
      go_wp2_with fail
      go_loopw [7, 9] (fun o i wr => ∃ (j : Nat) (wi : World), wi = wr ∧ j ≤ n2 ∧ i = .int .i64 j ∧ RowI wq.heap.size wi.heap.size wi o ((rowN r).take j) ∧ Below wq.heap.size wq wi ∧ RowTD (wq.alloc (.cells #[] 3)).heap.size wi.heap.size wi (.slice ra3 n2 rc3) (toBD (cutLD 44 r))) (fun _ i _ => n2 - (intOf i).toNat)
      case atStart => exact ⟨0, _, rfl, Nat.zero_le _, rfl, HR0.out, HB4.out, HR3.out⟩
      case round =>
        clear HR0 HB4 HR3
        obtain ⟨j, wi, rfl, hj, rfl, hrr, hb, ht⟩ := hrel
        have HRI := Lib.hid hrr; clear hrr
        have hsi := hb.size
        have HBI := Lib.hid hb; clear hb
        have HTI := Lib.hid ht; clear ht
        by_cases hjn : j < n2
        · have hjl : j < (cutLD 44 r).length := by rw [HM2.out]; exact hjn
          have hjb : j < (toBD (cutLD 44 r)).length := by rw [HM1.out]; exact hjn
          obtain ⟨g3, rfl, hg3, hcell⟩ := HTI.out.get hjb
          rw [toB_get] at hcell
          have hml2 := HCM2.out _ (List.getElem_mem hjl)
          have HST2 := Lib.hid (HSN2.out j hjl)
          generalize (cutLD 44 r)[j] = f at *
          have hnc := pnum_any ⟨f.toArray⟩ wi (by rw [ba_list]; unfold maxLen; omega)
          rw [show (⟨f.toArray⟩ : ByteArray).data.toList = f from rfl] at hnc
          have HNC := Lib.hid hnc
          clear hnc
          generalize numL f = y at *
          go_wp2_with fail
          clear hcell
          refine HNC.out.mono ?_
          rintro e w5 ⟨rfl, hb5⟩
          have hri5 := HRI.out.step hb5
          have hs5 : wq.heap.size ≤ w5.heap.size := Nat.le_trans hsi hb5.size
          have HRI5 := Lib.hid hri5
          have HB5 := Lib.hid (HBI.out.trans (hb5.mono hsi))
          have HT5 := Lib.hid (HTI.out.step hb5)
          have hlen : ((rowN r).take j).length ≤ 4194304 := by rw [List.length_take]; omega
          have HLEN := Lib.hid hlen
          clear hri5 hb5 hlen
          go_wp2_with (at_builtin; go_must (refine append_intGD HRI5.out hs5 y HST2.out rfl rfl rfl rfl HLEN.out ?_))
          intro v' w6 hr6 hb6 hz6 ht6
          have HR7 := Lib.hid hr6
          have HB7 := Lib.hid (hb6 wq wq.heap.size (Nat.le_refl _) HB5.out)
          have HT7 := Lib.hid ((ht6 _ _ _ _ HT5.out).mono hz6)
          clear hr6 hb6 hz6 ht6
          go_wp2_with fail
          exact ⟨⟨j + 1, _, rfl, by omega, by go_num, HR7.out, HB7.out, HT7.out⟩, by simp [intOf]; omega⟩
        · obtain rfl : j = n2 := by omega
          have hri := HRI.out
          rw [HALL2.out] at hri
          obtain ⟨xa, xn, xc, rfl⟩ := hri.slice3
          have HRI2 := Lib.hid hri
          have HMI := Lib.hid (HM.out.same (SameIn.of_below HBI.out (Nat.le_refl _)))
          have HTI2 := Lib.hid ((HT.out.same (SameIn.of_below HBI.out (Nat.le_refl _))).mono hsi)
          clear hri
          go_wp2_with (at_builtin; go_must (refine append_rowG HMI.out HRI2.out hsq hsi HST.out rfl rfl rfl rfl HPK.out ?_))
          intro v' w6 hm6 hb6 hz6 ht6
          have HM7 := Lib.hid hm6
          have HB7 := Lib.hid (hb6 w w.heap.size (Nat.le_refl _) (HB.out.trans (HBI.out.mono hsq)))
          have HT7 := Lib.hid ((ht6 _ _ _ _ HTI2.out).mono hz6)
          clear hm6 hb6 hz6 ht6
          go_wp2_with fail
          exact ⟨⟨k + 1, _, rfl, by omega, by go_num, HM7.out, HB7.out, HT7.out⟩, by simp [intOf]; omega⟩
    · obtain rfl : k = n := by omega
      have hM := HM.out
      rw [← HN2.out, ← HPL.out, List.take_length] at hM
      obtain ⟨xa, xc, rfl⟩ := hM.slice
      have HMF := Lib.hid hM
      have hfit : RowsFit (parM l) := by
        refine ⟨by rw [HPL.out, HN2.out]; unfold maxLen; omega, fun j hj => ?_⟩
        have hj2 : j < (cutLD 59 l).length := by rw [← HPL.out]; exact hj
        have e : (parM l)[j] = rowN (cutLD 59 l)[j] := by simp [parM]
        have h1 := rowN_len (cutLD 59 l)[j]
        have h2 := HCM.out _ (List.getElem_mem hj2)
        rw [e]; unfold maxLen; omega
      have HFM := Lib.hid (fms_any wq.heap.size (.slice xa (parM l).length xc) (parM l) wq hM.matB (Nat.le_refl _) hfit)
      clear hM hfit
      by_cases h0 : l = []
      · have h1 := str_empty (s := s) (by rw [← HL.out]; exact h0)
        have HP := Lib.hid (pcM_no (l := l) (fun h => h.1 h0))
        have HPB := Lib.hid (pcB_no (l := l) (fun h => h.1 h0))
        clear h0
        go_wp2_with fail
        go_ret2
        exact makesM2_no HP.out HPB.out.symm ((mat_empty wq).mono hsq (Nat.le_refl _)) (HB.out.alloc hsq _)
      · have h1 := str_full (s := s) (by rw [← HL.out]; exact h0)
        go_wp2_with fail
        refine HFM.out.mono ?_
        rintro e w5 ⟨rfl, hb5⟩
        have HB5 := Lib.hid (HB.out.trans (hb5.mono hsq))
        have hs5 := Nat.le_trans hsq hb5.size
        have HM5 := Lib.hid (HMF.out.step hb5)
        clear hb5
        by_cases he : fmtM (parM l) = l
        · have hq := neq_no (l := fmtM (parM l)) (s := s) (by rw [← HL.out]; exact he)
          have hok : PcOk l := ⟨h0, he⟩
          have HP := Lib.hid (pcM_yes hok)
          have HPB := Lib.hid (pcB_yes hok)
          clear hok he h0
          generalize fmtM (parM l) = ft at *
          go_wp2_with fail
          go_ret2
          refine ⟨.slice xa (parM l).length xc, ?_, by rw [HP.out]; exact ⟨HM5.out, Nat.le_refl _⟩, HB5.out⟩
          rw [HPB.out]
          rfl
        · have hq := neq_yes (l := fmtM (parM l)) (s := s) (by rw [← HL.out]; exact he)
          have HP := Lib.hid (pcM_no (l := l) (fun h => he h.2))
          have HPB := Lib.hid (pcB_no (l := l) (fun h => he h.2))
          clear he h0
          generalize fmtM (parM l) = ft at *
          go_wp2_with fail
          go_ret2
          exact makesM2_no HP.out HPB.out.symm ((mat_empty w5).mono hs5 (Nat.le_refl _)) (HB5.out.alloc hs5 _)
end Go.Proofs.YtppimgkampkfjaaGreatDoor
