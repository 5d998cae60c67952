/-
  ParseInt of the program: what each call returns.
-/
import Derived.Test.YtcmnkhblnlmfpaaDoorParS
import Derived.Test.YtcmnkhblnlmfpaaDoorLaidC
namespace Go.Proofs.YtcmnkhblnlmfpaaDoor
open Go.RowKit

theorem trim_lib (l : List UInt8) : Lib.trimPrefix l [45] = trim l := by
  unfold Lib.trimPrefix Lib.hasPrefix trim signed
  cases l with
  | nil => rfl
  | cons a r =>
    by_cases h : a = 45
    · subst h; simp [List.isPrefixOf]
    · have h' : ¬ (45 : UInt8) = a := fun e => h e.symm
      simp [List.isPrefixOf, h, h']

theorem trim_any (s : ByteArray) (w : World) :
    Calls Tryd.prog 49 #[.string s, .string ⟨#[45]⟩] w fun e w' => ∃ d : ByteArray, e = .returned (.string d) ∧ d.data.toList = trim s.data.toList ∧ w = w' :=
  (Tryd.strings_TrimPrefix s ⟨#[45]⟩ w).mono fun e w' ⟨he, hw⟩ => ⟨_, he, by rw [← trim_lib], hw.symm⟩

/-- The digits so far. -/
def PRel (d : ByteArray) (k : Nat) : Prop := allDig (d.data.toList.take k)
theorem prel_step {d : ByteArray} {k : Nat} (h : k < d.size) (hr : PRel d k) (hd : isDig (d[k])) : PRel d (k + 1) := by
  unfold PRel
  rw [take_byte d k h]
  intro b hb
  rcases List.mem_append.1 hb with hb | hb
  · exact hr b hb
  · simp only [List.mem_singleton] at hb; rw [hb]; exact hd
theorem bad_digit {s d : ByteArray} {k : Nat} (ht : d.data.toList = trim s.data.toList) (h : k < d.size) (hd : ¬ isDig (d[k])) : ¬ POk s.data.toList := fun hp => by
  have ha := (pok_tok hp).2
  rw [← ht] at ha
  refine hd (ha _ ?_)
  have : d.data.toList[k]'(by simpa using h) = d[k] := rfl
  rw [← this]; exact List.getElem_mem _
theorem trim_eq {s d : ByteArray} (ht : d.data.toList = trim s.data.toList) (h : ¬ signed s.data.toList) : d = s := by
  have e : trim s.data.toList = s.data.toList := if_neg h
  rw [e] at ht
  cases d; cases s
  congr 1
  exact Array.toList_inj.1 ht
theorem trim_ne {s d : ByteArray} (ht : d.data.toList = trim s.data.toList) (h : signed s.data.toList) : ¬ d.data.toList = s.data.toList := by
  intro e
  rw [e] at ht
  have h1 := tail_cons h
  have h2 : trim s.data.toList = s.data.toList.tail := if_pos h
  have h3 := congrArg List.length (ht.trans h2)
  have h4 := congrArg List.length h1
  simp only [List.length_cons] at h4
  omega
theorem it_pos1 (s : ByteArray) (w : World) (p : Nat) : (w.iter s p).iterPos w.heap.size = p := World.iterPos_iter w s p
theorem it_below1 (s : ByteArray) (w : World) (p : Nat) : Below w.heap.size w (w.iter s p) := (Below.refl _ _).alloc (Nat.le_refl _) _

theorem tok_of {s d : ByteArray} (ht : d.data.toList = trim s.data.toList) (h9 : d.size ≤ 9) (hr : PRel d d.size) : TOk s.data.toList := by
  unfold PRel at hr
  rw [take_all] at hr
  refine ⟨?_, ?_⟩
  · rw [← ht]; simpa using h9
  · rw [← ht]; exact hr
theorem fin_yes {s d : ByteArray} (ht : d.data.toList = trim s.data.toList) (h : TOk s.data.toList) {v : Int} (hv : v = pval s.data.toList (sv (d.data.toList.take d.size))) (hok : Lib.itoa v = s.data.toList) : POk s.data.toList ∧ v = PV s.data.toList := by
  rw [take_all, ht] at hv
  exact ⟨(pok_iff h).2 (by rw [← hv]; exact hok), by rw [hv, pv_tok h]⟩
theorem fin_no {s d : ByteArray} (ht : d.data.toList = trim s.data.toList) (h : TOk s.data.toList) {v : Int} (hv : v = pval s.data.toList (sv (d.data.toList.take d.size))) (hok : ¬ Lib.itoa v = s.data.toList) : ¬ POk s.data.toList := fun hp => by
  rw [take_all, ht] at hv
  exact hok (by rw [hv]; exact (pok_iff h).1 hp)
theorem ndig_i32 {b : UInt8} (h : ¬ isDig b) : b.toNat < 48 ∨ 57 < b.toNat := by unfold isDig at h; omega

set_option maxHeartbeats 1000000 in
set_option maxRecDepth 100000 in
theorem pari_any (s : ByteArray) (w : World) (hs : s.size ≤ maxLen) (htab : Lib.TabIs Tryd.prog w "internal/strconv.uint64pow10" .u64 Lib.pow10Tab) :
    Calls Tryd.prog 39 #[.string s] w fun e w' => ParseAns s e ∧ Below w.heap.size w w' := by
  unfold maxLen at hs
  have HT := Lib.hid htab; clear htab
  go_enter Tryd.func39, Tryd.ntmps39
  go_wp2_with fail
  refine (trim_any s _).mono ?_
  rintro e w' ⟨d, rfl, ht, rfl⟩
  have HD := Lib.hid ht; clear ht
  have hds : d.size ≤ 9223372036854775807 := by
    have h1 := congrArg List.length HD.out
    have h2 : (trim s.data.toList).length ≤ s.data.toList.length := by unfold trim; split <;> simp
    simp at h1 h2; omega
  by_cases h9 : 9 < d.size
  · have hno : ¬ POk s.data.toList := fun hp => by
      have h1 := (pok_tok hp).1
      rw [← HD.out] at h1
      simp at h1; omega
    have HNO := Lib.hid hno; clear hno
    go_wp2_with fail
    go_ret2
    exact ⟨ans_no HNO.out, Below.refl _ _⟩
  have h9' : d.size ≤ 9 := by omega
  clear h9
  go_wp2_with fail
  go_loopw [5] (fun n wr => ∃ k : Nat, k ≤ d.size ∧ wr = w.iter d k ∧ n = .int .i64 (sv (d.data.toList.take k)) ∧ PRel d k) (fun _ wr => d.size - wr.iterPos w.heap.size)
  case atStart => exact ⟨0, Nat.zero_le _, rfl, rfl, fun b hb => by simp at hb⟩
  case round =>
    obtain ⟨k, hk, rfl, rfl, hr⟩ := hrel
    have HR := Lib.hid hr; clear hr
    have hsv := sv_take_le d k (by omega)
    by_cases hlt : k < d.size
    · by_cases ha : (d[k]'hlt).toNat < 128
      · have hnx := fun ty => run_next_ascii (P := Tryd.prog) w d k ty hlt ha
        by_cases hd : isDig (d[k]'hlt)
        · have e1 := sv_step_yes d k hlt hd
          have E1 := Lib.hid e1; clear e1
          have hp := prel_step hlt HR.out hd
          have HP := Lib.hid hp; clear hp
          have d1 := hd.1
          have d2 := hd.2
          clear hd
          go_wp2_with fail
          refine ⟨⟨k + 1, by omega, rfl, by rw [E1.out]; go_num, HP.out⟩, ?_⟩
          rw [it_pos1, it_pos1]; omega
        · have hno := bad_digit HD.out hlt hd
          have HNO := Lib.hid hno; clear hno
          rcases ndig_i32 hd with d1 | d1
          all_goals
            clear hd
            go_wp2_with fail
            go_ret2
            exact ⟨ans_no HNO.out, it_below1 _ _ _⟩
      · have hnx := fun ty => run_next_any (P := Tryd.prog) w d k ty hlt
        have hdh := (decode_high d k hlt (by omega)).1
        have hno := bad_digit HD.out hlt (by unfold isDig; omega)
        have HNO := Lib.hid hno; clear hno
        go_wp2_with fail
        go_ret2
        exact ⟨ans_no HNO.out, it_below1 _ _ _⟩
    · obtain rfl : k = d.size := by omega
      have hnx := fun ty => run_next_end (P := Tryd.prog) w d d.size ty hlt
      have htok := tok_of HD.out h9' HR.out
      have HTOK := Lib.hid htok; clear htok
      have htab2 := tab_below HT.out (it_below1 d w d.size)
      have HT2 := Lib.hid htab2; clear htab2
      by_cases hsg : signed s.data.toList
      · have hv : -((sv (d.data.toList.take d.size) : Nat) : Int) = pval s.data.toList (sv (d.data.toList.take d.size)) := (if_pos hsg).symm
        have hne := trim_ne HD.out hsg
        have HV := Lib.hid hv; clear hv
        have hq : (d.toList == s.toList) = false := by rw [ByteArray.toList_eq, ByteArray.toList_eq, beq_eq_false_iff_ne]; exact hne
        clear hne hsg
        by_cases hok : Lib.itoa (-((sv (d.data.toList.take d.size) : Nat) : Int)) = s.data.toList
        · have hf := fin_yes HD.out HTOK.out HV.out hok
          have hz := neq_no hok
          have HF := Lib.hid hf; clear hf hok
          go_wp2_with (go_at_call 36; go_must (refine (fmti_any (-((sv (d.data.toList.take d.size) : Nat) : Int)) _ (by omega) (by omega) HT2.out).mono ?_; rintro e w1 ⟨rfl, hb1⟩))
          go_ret2
          exact ⟨ans_yes HF.out.1 HF.out.2, (it_below1 _ _ _).trans (hb1.mono (it_below1 d w d.size).size)⟩
        · have hf := fin_no HD.out HTOK.out HV.out hok
          have hz := neq_yes hok
          have HF := Lib.hid hf; clear hf hok
          go_wp2_with (go_at_call 36; go_must (refine (fmti_any (-((sv (d.data.toList.take d.size) : Nat) : Int)) _ (by omega) (by omega) HT2.out).mono ?_; rintro e w1 ⟨rfl, hb1⟩))
          go_ret2
          exact ⟨ans_no HF.out, (it_below1 _ _ _).trans (hb1.mono (it_below1 d w d.size).size)⟩
      · have hv : ((sv (d.data.toList.take d.size) : Nat) : Int) = pval s.data.toList (sv (d.data.toList.take d.size)) := (if_neg hsg).symm
        have hne := trim_eq HD.out hsg
        have HV := Lib.hid hv; clear hv
        have hq : (d.toList == s.toList) = true := by rw [ByteArray.toList_eq, ByteArray.toList_eq, beq_iff_eq, hne]
        clear hne hsg
        by_cases hok : Lib.itoa (((sv (d.data.toList.take d.size) : Nat) : Int)) = s.data.toList
        · have hf := fin_yes HD.out HTOK.out HV.out hok
          have hz := neq_no hok
          have HF := Lib.hid hf; clear hf hok
          go_wp2_with (go_at_call 36; go_must (refine (fmti_any (((sv (d.data.toList.take d.size) : Nat) : Int)) _ (by omega) (by omega) HT2.out).mono ?_; rintro e w1 ⟨rfl, hb1⟩))
          go_ret2
          exact ⟨ans_yes HF.out.1 HF.out.2, (it_below1 _ _ _).trans (hb1.mono (it_below1 d w d.size).size)⟩
        · have hf := fin_no HD.out HTOK.out HV.out hok
          have hz := neq_yes hok
          have HF := Lib.hid hf; clear hf hok
          go_wp2_with (go_at_call 36; go_must (refine (fmti_any (((sv (d.data.toList.take d.size) : Nat) : Int)) _ (by omega) (by omega) HT2.out).mono ?_; rintro e w1 ⟨rfl, hb1⟩))
          go_ret2
          exact ⟨ans_no HF.out, (it_below1 _ _ _).trans (hb1.mono (it_below1 d w d.size).size)⟩
end Go.Proofs.YtcmnkhblnlmfpaaDoor
