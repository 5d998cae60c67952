/-
  Plain facts on decimal texts: which text is the numeral of a number of at most nine digits.
  ParseInt of the model: what each call returns.
  ParseInt of the program: what each call returns.
-/
import Derived.Test.YtcmnkhblnlmfpaaGreatDoorFW14
import Derived.Test.YtcmnkhblnlmfpaaGreatDoorFW16
namespace Go.Proofs.YtcmnkhblnlmfpaaGreatDoor

def isDig (b : UInt8) : Prop := 48 ≤ b.toNat ∧ b.toNat ≤ 57
instance (b : UInt8) : Decidable (isDig b) := by unfold isDig; exact inferInstance
def svStep (n : Nat) (b : UInt8) : Nat := if isDig b then n * 10 + (b.toNat - 48) else n
def sv (l : List UInt8) : Nat := l.foldl svStep 0
def cnt (l : List UInt8) : Nat := l.foldl (fun n b => if isDig b then n + 1 else n) 0
theorem sv_snoc (l : List UInt8) (c : UInt8) : sv (l ++ [c]) = if isDig c then sv l * 10 + (c.toNat - 48) else sv l := by simp [sv, svStep]
theorem cnt_snoc (l : List UInt8) (c : UInt8) : cnt (l ++ [c]) = if isDig c then cnt l + 1 else cnt l := by simp [cnt]
theorem snoc_ind {P : List UInt8 → Prop} (h0 : P []) (h1 : ∀ l c, P l → P (l ++ [c])) (l : List UInt8) : P l := by
  have h : ∀ (n : Nat) (l : List UInt8), l.length = n → P l := by
    intro n
    induction n with
    | zero => intro l hl; rw [List.eq_nil_of_length_eq_zero hl]; exact h0
    | succ n ih =>
      intro l hl
      have hne : l ≠ [] := by intro e; rw [e] at hl; simp at hl
      rw [← List.dropLast_concat_getLast hne]
      exact h1 _ _ (ih _ (by rw [List.length_dropLast]; omega))
  exact h _ l rfl
theorem cnt_le (l : List UInt8) : cnt l ≤ l.length := by
  refine snoc_ind (P := fun l => cnt l ≤ l.length) (by simp [cnt]) ?_ l
  intro l c h
  rw [cnt_snoc, List.length_append, List.length_singleton]
  split <;> omega
theorem sv_lt (l : List UInt8) : sv l < 10 ^ cnt l := by
  refine snoc_ind (P := fun l => sv l < 10 ^ cnt l) (by simp [sv, cnt]) ?_ l
  intro l c h
  rw [sv_snoc, cnt_snoc]
  split
  · rename_i hd
    unfold isDig at hd
    rw [Nat.pow_succ]; omega
  · exact h
theorem sv_small (l : List UInt8) (k : Nat) (h : cnt l ≤ k) : sv l < 10 ^ k := Nat.lt_of_lt_of_le (sv_lt l) (Nat.pow_le_pow_right (by omega) h)
def allDig (l : List UInt8) : Prop := ∀ b, b ∈ l → isDig b
theorem cnt_all (l : List UInt8) (h : allDig l) : cnt l = l.length := by
  revert h
  refine snoc_ind (P := fun l => allDig l → cnt l = l.length) (fun _ => rfl) ?_ l
  intro l c ih h
  rw [cnt_snoc, if_pos (h c (by simp)), ih (fun b hb => h b (by simp [hb]))]; simp

theorem u8_dig (k : Nat) (h : k < 10) : isDig (UInt8.ofNat (48 + k)) ∧ (UInt8.ofNat (48 + k)).toNat - 48 = k := by
  unfold isDig; rw [u8_natN _ (by omega)]; omega
theorem dec_all (n : Nat) : allDig (Lib.decDigits n) ∧ sv (Lib.decDigits n) = n := by
  induction n using Nat.strongRecOn with
  | ind n ih =>
    by_cases h : n < 10
    · rw [dec_small h]
      have hd := u8_dig n h
      refine ⟨fun b hb => ?_, ?_⟩
      · simp only [List.mem_singleton] at hb; rw [hb]; exact hd.1
      · have := sv_snoc [] (UInt8.ofNat (48 + n))
        rw [List.nil_append] at this
        rw [this, if_pos hd.1, hd.2]; simp [sv]
    · rw [dec_big h]
      obtain ⟨i1, i2⟩ := ih (n / 10) (by omega)
      have hd := u8_dig (n % 10) (by omega)
      refine ⟨fun b hb => ?_, ?_⟩
      · rcases List.mem_append.1 hb with hb | hb
        · exact i1 b hb
        · simp only [List.mem_singleton] at hb; rw [hb]; exact hd.1
      · rw [sv_snoc, if_pos hd.1, i2, hd.2]; omega
theorem not_dig45 : ¬ isDig 45 := by decide

/-- A '-' in front is a sign. -/
def signed (l : List UInt8) : Prop := l.head? = some 45
instance (l : List UInt8) : Decidable (signed l) := by unfold signed; exact inferInstance
def trim (l : List UInt8) : List UInt8 := if signed l then l.tail else l
def pval (l : List UInt8) (n : Nat) : Int := if signed l then -(n : Int) else n
def PV (l : List UInt8) : Int := pval l (sv (l.take 11))
def POk (l : List UInt8) : Prop := cnt (l.take 11) ≤ 9 ∧ l.length ≤ 10 ∧ Lib.itoa (PV l) = l
def TOk (l : List UInt8) : Prop := (trim l).length ≤ 9 ∧ allDig (trim l)

theorem dec_head (n : Nat) : ¬ signed (Lib.decDigits n) := by
  intro h
  unfold signed at h
  have hm : (45 : UInt8) ∈ Lib.decDigits n := List.mem_of_mem_head? (by rw [h]; rfl)
  exact not_dig45 ((dec_all n).1 45 hm)
theorem tail_cons {l : List UInt8} (h : signed l) : l = 45 :: l.tail := by
  unfold signed at h
  cases l with
  | nil => simp at h
  | cons a r => simp at h; rw [h]; rfl
theorem fold_cons45 (r : List UInt8) : sv (45 :: r) = sv r ∧ cnt (45 :: r) = cnt r := by
  constructor
  · simp only [sv, List.foldl_cons, svStep, if_neg not_dig45]
  · simp only [cnt, List.foldl_cons, if_neg not_dig45]
theorem tok_facts {l : List UInt8} (h : TOk l) : l.take 11 = l ∧ sv l = sv (trim l) ∧ cnt l ≤ 9 ∧ l.length ≤ 10 := by
  obtain ⟨h1, h2⟩ := h
  have hc := cnt_all _ h2
  unfold trim at *
  by_cases hs : signed l
  · rw [if_pos hs] at *
    have e := tail_cons hs
    have hf := fold_cons45 l.tail
    rw [← e] at hf
    have hl : l.length = l.tail.length + 1 := by rw [e]; simp
    exact ⟨List.take_of_length_le (by omega), hf.1, by omega, by omega⟩
  · rw [if_neg hs] at *
    exact ⟨List.take_of_length_le (by omega), rfl, by omega, by omega⟩
theorem itoa_cases (v : Int) : (v < 0 ∧ Lib.itoa v = 45 :: Lib.decDigits v.natAbs) ∨ (0 ≤ v ∧ Lib.itoa v = Lib.decDigits v.toNat) := by
  unfold Lib.itoa
  by_cases h : v < 0
  · exact Or.inl ⟨h, if_pos h⟩
  · exact Or.inr ⟨by omega, if_neg h⟩
theorem pok_tok {l : List UInt8} (h : POk l) : TOk l := by
  obtain ⟨h1, h2, h3⟩ := h
  rw [List.take_of_length_le (by omega)] at h1
  rcases itoa_cases (PV l) with ⟨_, e⟩ | ⟨_, e⟩
  · rw [h3] at e
    have hs : signed l := by rw [e]; rfl
    have ht : trim l = Lib.decDigits (PV l).natAbs := by
      unfold trim; rw [if_pos hs]; rw [congrArg List.tail e]; rfl
    have ha := (dec_all (PV l).natAbs).1
    have hf := (fold_cons45 (Lib.decDigits (PV l).natAbs)).2
    rw [← e, cnt_all _ ha] at hf
    unfold TOk
    rw [ht]
    exact ⟨by omega, ha⟩
  · rw [h3] at e
    have hs : ¬ signed l := by rw [e]; exact dec_head _
    have ha := (dec_all (PV l).toNat).1
    rw [← e] at ha
    unfold TOk trim
    rw [if_neg hs]
    have := cnt_all _ ha
    exact ⟨by omega, ha⟩
theorem pok_iff {l : List UInt8} (h : TOk l) : POk l ↔ Lib.itoa (pval l (sv (trim l))) = l := by
  obtain ⟨h1, h2, h3, h4⟩ := tok_facts h
  unfold POk PV
  rw [h1, h2]
  exact ⟨fun h => h.2.2, fun h => ⟨h3, h4, h⟩⟩
theorem pv_tok {l : List UInt8} (h : TOk l) : PV l = pval l (sv (trim l)) := by
  obtain ⟨h1, h2, h3, h4⟩ := tok_facts h
  unfold PV
  rw [h1, h2]

/-- What both answer. -/
def ParseAns (s : ByteArray) (e : Ending) : Prop :=
  (POk s.data.toList ∧ e = .returned (.tuple #[.int .i64 (PV s.data.toList), .bool true])) ∨ (¬ POk s.data.toList ∧ e = .returned (.tuple #[.int .i64 0, .bool false]))
theorem parseAns_one {s : ByteArray} {e e' : Ending} (h : ParseAns s e) (h' : ParseAns s e') : e = e' := by
  rcases h with ⟨h1, rfl⟩ | ⟨h1, rfl⟩ <;> rcases h' with ⟨h2, rfl⟩ | ⟨h2, rfl⟩
  · rfl
  · exact absurd h1 h2
  · exact absurd h2 h1
  · rfl
theorem ans_no {s : ByteArray} (h : ¬ POk s.data.toList) : ParseAns s (.returned (.tuple #[.int .i64 0, .bool false])) := Or.inr ⟨h, rfl⟩
theorem ans_yes {s : ByteArray} (h : POk s.data.toList) {v : Int} (hv : v = PV s.data.toList) : ParseAns s (.returned (.tuple #[.int .i64 v, .bool true])) := Or.inl ⟨h, by rw [hv]⟩
end Go.Proofs.YtcmnkhblnlmfpaaGreatDoor
namespace Go.Proofs.YtcmnkhblnlmfpaaGreatDoor
open Go.RowKit

theorem take_byte (s : ByteArray) (k : Nat) (h : k < s.size) : s.data.toList.take (k + 1) = s.data.toList.take k ++ [s[k]] := by
  rw [List.take_succ_eq_append_getElem (by simpa using h)]; rfl
theorem sv_step_yes (s : ByteArray) (k : Nat) (h : k < s.size) (hd : isDig (s[k])) : sv (s.data.toList.take (k + 1)) = sv (s.data.toList.take k) * 10 + ((s[k]).toNat - 48) := by
  rw [take_byte s k h, sv_snoc, if_pos hd]
theorem sv_step_no (s : ByteArray) (k : Nat) (h : k < s.size) (hd : ¬ isDig (s[k])) : sv (s.data.toList.take (k + 1)) = sv (s.data.toList.take k) := by
  rw [take_byte s k h, sv_snoc, if_neg hd]
theorem cnt_step_yes (s : ByteArray) (k : Nat) (h : k < s.size) (hd : isDig (s[k])) : cnt (s.data.toList.take (k + 1)) = cnt (s.data.toList.take k) + 1 := by
  rw [take_byte s k h, cnt_snoc, if_pos hd]
theorem cnt_step_no (s : ByteArray) (k : Nat) (h : k < s.size) (hd : ¬ isDig (s[k])) : cnt (s.data.toList.take (k + 1)) = cnt (s.data.toList.take k) := by
  rw [take_byte s k h, cnt_snoc, if_neg hd]
theorem cnt_take (s : ByteArray) (k : Nat) : cnt (s.data.toList.take k) ≤ k := Nat.le_trans (cnt_le _) (List.length_take_le _ _)
theorem sv_take_le (s : ByteArray) (k : Nat) (h : k ≤ 11) : sv (s.data.toList.take k) ≤ 99999999999 := by
  have h1 := sv_small (s.data.toList.take k) 11 (Nat.le_trans (cnt_take s k) h)
  have : (10 : Nat) ^ 11 = 100000000000 := by decide
  omega

set_option maxHeartbeats 400000 in
set_option maxRecDepth 100000 in
theorem pars_long (s : ByteArray) (w : World) (hs : s.size ≤ maxLen) (h11 : 11 ≤ s.size) :
    Calls Tryz.prog 105 #[.string s] w fun e w' => ParseAns s e ∧ Below w.heap.size w w' := by
  unfold maxLen at hs
  have hno : ¬ POk s.data.toList := fun h => by have := h.2.1; simp at this; omega
  have HNO := Lib.hid hno; clear hno
  go_enter Tryz.func105, Tryz.ntmps105
  go_wp2_with fail
  go_loop [4, 5, 6] (fun n c i => ∃ k : Nat, k ≤ 11 ∧ i = .int .i64 k ∧ n = .int .i64 (sv (s.data.toList.take k)) ∧ c = .int .i64 (cnt (s.data.toList.take k))) (fun _ _ i => 11 - (intOf i).toNat)
  case atStart => exact ⟨0, Nat.zero_le _, rfl, rfl, rfl⟩
  case round =>
    obtain ⟨k, hk, rfl, rfl, rfl⟩ := hrel
    have hsv := sv_take_le s k hk
    have hcn := cnt_take s k
    by_cases hlt : k < 11
    · have hks : k < s.size := by omega
      by_cases hd : isDig (s[k]'hks)
      · have e1 := sv_step_yes s k hks hd
        have e2 := cnt_step_yes s k hks hd
        have E1 := Lib.hid e1; clear e1
        have E2 := Lib.hid e2; clear e2
        have d1 := hd.1
        have d2 := hd.2
        clear hd
        go_wp2_with fail
        go_round
        case rel => exact ⟨k + 1, by omega, by go_num, by rw [E1.out]; go_num, by rw [E2.out]; go_num⟩
        case measure => simp [intOf]; omega
      · have e1 := sv_step_no s k hks hd
        have e2 := cnt_step_no s k hks hd
        have E1 := Lib.hid e1; clear e1
        have E2 := Lib.hid e2; clear e2
        have d1 : (s[k]'hks).toNat < 48 ∨ 57 < (s[k]'hks).toNat := by unfold isDig at hd; omega
        clear hd
        rcases d1 with d1 | d1
        all_goals
          go_wp2_with fail
          go_round
          case rel => exact ⟨k + 1, by omega, by go_num, by rw [E1.out], by rw [E2.out]⟩
          case measure => simp [intOf]; omega
    · obtain rfl : k = 11 := by omega
      go_wp2_with fail
      all_goals go_ret2
      all_goals exact ⟨ans_no HNO.out, Below.refl _ _⟩

theorem neq_no {l : List UInt8} {s : ByteArray} (h : l = s.data.toList) : (l == s.toList) = true := by
  rw [ByteArray.toList_eq, beq_iff_eq]; exact h
theorem neq_yes {l : List UInt8} {s : ByteArray} (h : ¬ l = s.data.toList) : (l == s.toList) = false := by
  rw [ByteArray.toList_eq, beq_eq_false_iff_ne]; exact h
theorem take_all (s : ByteArray) : s.data.toList.take s.size = s.data.toList := List.take_of_length_le (by simp)
theorem take_all11 (s : ByteArray) (h : s.size ≤ 10) : s.data.toList.take 11 = s.data.toList.take s.size := by
  rw [take_all, List.take_of_length_le (by simp; omega)]
theorem short_ok (s : ByteArray) (h10 : s.size ≤ 10) (h9 : cnt (s.data.toList.take s.size) ≤ 9) {v : Int} (hv : v = PV s.data.toList) (h : Lib.itoa v = s.data.toList) : POk s.data.toList :=
  ⟨by rw [take_all11 s h10]; exact h9, by simpa using h10, by rw [← hv]; exact h⟩
theorem short_bad (s : ByteArray) {v : Int} (hv : v = PV s.data.toList) (h : ¬ Lib.itoa v = s.data.toList) : ¬ POk s.data.toList := fun hp => h (by rw [hv]; exact hp.2.2)
theorem signed_byte (s : ByteArray) (h : 0 < s.size) : signed s.data.toList ↔ (s[0]).toNat = 45 := by
  unfold signed
  have e : s.data.toList[0]? = some (s[0]) := by rw [List.getElem?_eq_getElem (by simpa using h)]; rfl
  rw [List.head?_eq_getElem?, e, Option.some.injEq, u8_ext]; rfl
theorem pv_un (s : ByteArray) (h10 : s.size ≤ 10) (h : ¬ signed s.data.toList) : ((sv (s.data.toList.take s.size) : Nat) : Int) = PV s.data.toList := by
  unfold PV pval; rw [if_neg h, take_all11 s h10]
theorem pv_si (s : ByteArray) (h10 : s.size ≤ 10) (h : signed s.data.toList) : -((sv (s.data.toList.take s.size) : Nat) : Int) = PV s.data.toList := by
  unfold PV pval; rw [if_pos h, take_all11 s h10]

set_option maxHeartbeats 1000000 in
set_option maxRecDepth 100000 in
theorem pars_short (s : ByteArray) (w : World) (h10 : s.size ≤ 10) :
    Calls Tryz.prog 105 #[.string s] w fun e w' => ParseAns s e ∧ Below w.heap.size w w' := by
  go_enter Tryz.func105, Tryz.ntmps105
  go_wp2_with fail
  go_loop [4, 5, 6] (fun n c i => ∃ k : Nat, k ≤ s.size ∧ i = .int .i64 k ∧ n = .int .i64 (sv (s.data.toList.take k)) ∧ c = .int .i64 (cnt (s.data.toList.take k))) (fun _ _ i => 11 - (intOf i).toNat)
  case atStart => exact ⟨0, Nat.zero_le _, rfl, rfl, rfl⟩
  case round =>
    obtain ⟨k, hk, rfl, rfl, rfl⟩ := hrel
    have hsv := sv_take_le s k (by omega)
    have hcn := cnt_take s k
    by_cases hks : k < s.size
    · by_cases hd : isDig (s[k]'hks)
      · have e1 := sv_step_yes s k hks hd
        have e2 := cnt_step_yes s k hks hd
        have E1 := Lib.hid e1; clear e1
        have E2 := Lib.hid e2; clear e2
        have d1 := hd.1
        have d2 := hd.2
        clear hd
        go_wp2_with fail
        go_round
        case rel => exact ⟨k + 1, by omega, by go_num, by rw [E1.out]; go_num, by rw [E2.out]; go_num⟩
        case measure => simp [intOf]; omega
      · have e1 := sv_step_no s k hks hd
        have e2 := cnt_step_no s k hks hd
        have E1 := Lib.hid e1; clear e1
        have E2 := Lib.hid e2; clear e2
        have d1 : (s[k]'hks).toNat < 48 ∨ 57 < (s[k]'hks).toNat := by unfold isDig at hd; omega
        clear hd
        rcases d1 with d1 | d1
        all_goals
          go_wp2_with fail
          go_round
          case rel => exact ⟨k + 1, by omega, by go_num, by rw [E1.out], by rw [E2.out]⟩
          case measure => simp [intOf]; omega
    · obtain rfl : k = s.size := by omega
      by_cases h9 : 9 < cnt (s.data.toList.take s.size)
      · have hno : ¬ POk s.data.toList := fun h => by have := h.1; rw [take_all11 s h10] at this; omega
        have HNO := Lib.hid hno; clear hno
        go_wp2_with fail
        all_goals go_ret2
        all_goals exact ⟨ans_no HNO.out, Below.refl _ _⟩
      have h9' : cnt (s.data.toList.take s.size) ≤ 9 := by omega
      have H9 := Lib.hid h9
      have hd9 : decide (9 < ((cnt (s.data.toList.take s.size) : Nat) : Int)) = false := by rw [decide_eq_false_iff_not]; omega
      have hd10 : decide (10 < ((s.size : Nat) : Int)) = false := by rw [decide_eq_false_iff_not]; omega
      clear h9
      by_cases h0 : 0 < s.size
      · by_cases hsg : signed s.data.toList
        · have hb : ((s[0]'h0).toNat : Int) = 45 := by have := (signed_byte s h0).1 hsg; omega
          have hbq : (((s[0]'h0).toNat : Int) == 45) = true := by rw [beq_iff_eq]; exact hb
          have hpv := pv_si s h10 hsg
          have HPV := Lib.hid hpv; clear hpv hb hsg
          by_cases hok : Lib.itoa (-((sv (s.data.toList.take s.size) : Nat) : Int)) = s.data.toList
          · have hq := neq_no hok
            have HOK := Lib.hid hok; clear hok
            go_wp2_with (go_at_call 76; go_must (refine (fmts_any (-((sv (s.data.toList.take s.size) : Nat) : Int)) _ (by omega) (by omega)).mono ?_; rintro e w1 ⟨rfl, hb1⟩))
            go_ret2
            exact ⟨ans_yes (short_ok s h10 (by have := H9.out; omega) HPV.out HOK.out) HPV.out, hb1⟩
          · have hq := neq_yes hok
            have HOK := Lib.hid hok; clear hok
            go_wp2_with (go_at_call 76; go_must (refine (fmts_any (-((sv (s.data.toList.take s.size) : Nat) : Int)) _ (by omega) (by omega)).mono ?_; rintro e w1 ⟨rfl, hb1⟩))
            go_ret2
            exact ⟨ans_no (short_bad s HPV.out HOK.out), hb1⟩

        · have hb : ¬ ((s[0]'h0).toNat : Int) = 45 := fun e => hsg ((signed_byte s h0).2 (by omega))
          have hbq : (((s[0]'h0).toNat : Int) == 45) = false := by rw [beq_eq_false_iff_ne]; exact hb
          have hpv := pv_un s h10 hsg
          have HPV := Lib.hid hpv; clear hpv hb hsg
          by_cases hok : Lib.itoa (((sv (s.data.toList.take s.size) : Nat) : Int)) = s.data.toList
          · have hq := neq_no hok
            have HOK := Lib.hid hok; clear hok
            go_wp2_with (go_at_call 76; go_must (refine (fmts_any (((sv (s.data.toList.take s.size) : Nat) : Int)) _ (by omega) (by omega)).mono ?_; rintro e w1 ⟨rfl, hb1⟩))
            go_ret2
            exact ⟨ans_yes (short_ok s h10 (by have := H9.out; omega) HPV.out HOK.out) HPV.out, hb1⟩
          · have hq := neq_yes hok
            have HOK := Lib.hid hok; clear hok
            go_wp2_with (go_at_call 76; go_must (refine (fmts_any (((sv (s.data.toList.take s.size) : Nat) : Int)) _ (by omega) (by omega)).mono ?_; rintro e w1 ⟨rfl, hb1⟩))
            go_ret2
            exact ⟨ans_no (short_bad s HPV.out HOK.out), hb1⟩

      · have hsg : ¬ signed s.data.toList := fun h => by
          have := congrArg List.length (tail_cons h)
          simp at this; omega
        have hpv := pv_un s h10 hsg
        have HPV := Lib.hid hpv; clear hpv hsg
        by_cases hok : Lib.itoa (((sv (s.data.toList.take s.size) : Nat) : Int)) = s.data.toList
        · have hq := neq_no hok
          have HOK := Lib.hid hok; clear hok
          go_wp2_with (go_at_call 76; go_must (refine (fmts_any (((sv (s.data.toList.take s.size) : Nat) : Int)) _ (by omega) (by omega)).mono ?_; rintro e w1 ⟨rfl, hb1⟩))
          go_ret2
          exact ⟨ans_yes (short_ok s h10 (by have := H9.out; omega) HPV.out HOK.out) HPV.out, hb1⟩
        · have hq := neq_yes hok
          have HOK := Lib.hid hok; clear hok
          go_wp2_with (go_at_call 76; go_must (refine (fmts_any (((sv (s.data.toList.take s.size) : Nat) : Int)) _ (by omega) (by omega)).mono ?_; rintro e w1 ⟨rfl, hb1⟩))
          go_ret2
          exact ⟨ans_no (short_bad s HPV.out HOK.out), hb1⟩

theorem pars_any (s : ByteArray) (w : World) (hs : s.size ≤ maxLen) :
    Calls Tryz.prog 105 #[.string s] w fun e w' => ParseAns s e ∧ Below w.heap.size w w' := by
  rcases Nat.lt_or_ge s.size 11 with h | h
  · exact pars_short s w (by omega)
  · exact pars_long s w hs h
end Go.Proofs.YtcmnkhblnlmfpaaGreatDoor
namespace Go.Proofs.YtcmnkhblnlmfpaaGreatDoor
open Go.RowKit

theorem trim_lib (l : List UInt8) : Lib.trimPrefix l [45] = trim l := by
  unfold Lib.trimPrefix Lib.hasPrefix trim signed
  cases l with
  | nil => rfl
  | cons a r =>
    by_cases h : a = 45
    · subst h; simp [List.isPrefixOf]
    · have h' : ¬ (45 : UInt8) = a := fun e => h e.symm
      simp [List.isPrefixOf, h, h']

theorem trim_any (s : ByteArray) (w : World) :
    Calls Tryz.prog 118 #[.string s, .string ⟨#[45]⟩] w fun e w' => ∃ d : ByteArray, e = .returned (.string d) ∧ d.data.toList = trim s.data.toList ∧ w = w' :=
  (Tryz.strings_TrimPrefix s ⟨#[45]⟩ w).mono fun e w' ⟨he, hw⟩ => ⟨_, he, by rw [← trim_lib], hw.symm⟩

/-- The digits so far. -/
def PRel (d : ByteArray) (k : Nat) : Prop := allDig (d.data.toList.take k)
theorem prel_step {d : ByteArray} {k : Nat} (h : k < d.size) (hr : PRel d k) (hd : isDig (d[k])) : PRel d (k + 1) := by
  unfold PRel
  rw [take_byte d k h]
  intro b hb
  rcases List.mem_append.1 hb with hb | hb
  · exact hr b hb
  · simp only [List.mem_singleton] at hb; rw [hb]; exact hd
theorem bad_digit {s d : ByteArray} {k : Nat} (ht : d.data.toList = trim s.data.toList) (h : k < d.size) (hd : ¬ isDig (d[k])) : ¬ POk s.data.toList := fun hp => by
  have ha := (pok_tok hp).2
  rw [← ht] at ha
  refine hd (ha _ ?_)
  have : d.data.toList[k]'(by simpa using h) = d[k] := rfl
  rw [← this]; exact List.getElem_mem _
theorem trim_eq {s d : ByteArray} (ht : d.data.toList = trim s.data.toList) (h : ¬ signed s.data.toList) : d = s := by
  have e : trim s.data.toList = s.data.toList := if_neg h
  rw [e] at ht
  cases d; cases s
  congr 1
  exact Array.toList_inj.1 ht
theorem trim_ne {s d : ByteArray} (ht : d.data.toList = trim s.data.toList) (h : signed s.data.toList) : ¬ d.data.toList = s.data.toList := by
  intro e
  rw [e] at ht
  have h1 := tail_cons h
  have h2 : trim s.data.toList = s.data.toList.tail := if_pos h
  have h3 := congrArg List.length (ht.trans h2)
  have h4 := congrArg List.length h1
  simp only [List.length_cons] at h4
  omega
theorem it_pos1 (s : ByteArray) (w : World) (p : Nat) : (w.iter s p).iterPos w.heap.size = p := World.iterPos_iter w s p
theorem it_below1 (s : ByteArray) (w : World) (p : Nat) : Below w.heap.size w (w.iter s p) := (Below.refl _ _).alloc (Nat.le_refl _) _

theorem tok_of {s d : ByteArray} (ht : d.data.toList = trim s.data.toList) (h9 : d.size ≤ 9) (hr : PRel d d.size) : TOk s.data.toList := by
  unfold PRel at hr
  rw [take_all] at hr
  refine ⟨?_, ?_⟩
  · rw [← ht]; simpa using h9
  · rw [← ht]; exact hr
theorem fin_yes {s d : ByteArray} (ht : d.data.toList = trim s.data.toList) (h : TOk s.data.toList) {v : Int} (hv : v = pval s.data.toList (sv (d.data.toList.take d.size))) (hok : Lib.itoa v = s.data.toList) : POk s.data.toList ∧ v = PV s.data.toList := by
  rw [take_all, ht] at hv
  exact ⟨(pok_iff h).2 (by rw [← hv]; exact hok), by rw [hv, pv_tok h]⟩
theorem fin_no {s d : ByteArray} (ht : d.data.toList = trim s.data.toList) (h : TOk s.data.toList) {v : Int} (hv : v = pval s.data.toList (sv (d.data.toList.take d.size))) (hok : ¬ Lib.itoa v = s.data.toList) : ¬ POk s.data.toList := fun hp => by
  rw [take_all, ht] at hv
  exact hok (by rw [hv]; exact (pok_iff h).1 hp)
theorem ndig_i32 {b : UInt8} (h : ¬ isDig b) : b.toNat < 48 ∨ 57 < b.toNat := by unfold isDig at h; omega

set_option maxHeartbeats 1000000 in
set_option maxRecDepth 100000 in
theorem pari_any (s : ByteArray) (w : World) (hs : s.size ≤ maxLen) (htab : Lib.TabIs Tryz.prog w "internal/strconv.uint64pow10" .u64 Lib.pow10Tab) :
    Calls Tryz.prog 102 #[.string s] w fun e w' => ParseAns s e ∧ Below w.heap.size w w' := by
  unfold maxLen at hs
  have HT := Lib.hid htab; clear htab
  go_enter Tryz.func102, Tryz.ntmps102
  go_wp2_with fail
  refine (trim_any s _).mono ?_
  rintro e w' ⟨d, rfl, ht, rfl⟩
  have HD := Lib.hid ht; clear ht
  have hds : d.size ≤ 9223372036854775807 := by
    have h1 := congrArg List.length HD.out
    have h2 : (trim s.data.toList).length ≤ s.data.toList.length := by unfold trim; split <;> simp
    simp at h1 h2; omega
  by_cases h9 : 9 < d.size
  · have hno : ¬ POk s.data.toList := fun hp => by
      have h1 := (pok_tok hp).1
      rw [← HD.out] at h1
      simp at h1; omega
    have HNO := Lib.hid hno; clear hno
    go_wp2_with fail
    go_ret2
    exact ⟨ans_no HNO.out, Below.refl _ _⟩
  have h9' : d.size ≤ 9 := by omega
  clear h9
  go_wp2_with fail
  go_loopw [5] (fun n wr => ∃ k : Nat, k ≤ d.size ∧ wr = w.iter d k ∧ n = .int .i64 (sv (d.data.toList.take k)) ∧ PRel d k) (fun _ wr => d.size - wr.iterPos w.heap.size)
  case atStart => exact ⟨0, Nat.zero_le _, rfl, rfl, fun b hb => by simp at hb⟩
  case round =>
    obtain ⟨k, hk, rfl, rfl, hr⟩ := hrel
    have HR := Lib.hid hr; clear hr
    have hsv := sv_take_le d k (by omega)
    by_cases hlt : k < d.size
    · by_cases ha : (d[k]'hlt).toNat < 128
      · have hnx := fun ty => run_next_ascii (P := Tryz.prog) w d k ty hlt ha
        by_cases hd : isDig (d[k]'hlt)
        · have e1 := sv_step_yes d k hlt hd
          have E1 := Lib.hid e1; clear e1
          have hp := prel_step hlt HR.out hd
          have HP := Lib.hid hp; clear hp
          have d1 := hd.1
          have d2 := hd.2
          clear hd
          go_wp2_with fail
          refine ⟨⟨k + 1, by omega, rfl, by rw [E1.out]; go_num, HP.out⟩, ?_⟩
          rw [it_pos1, it_pos1]; omega
        · have hno := bad_digit HD.out hlt hd
          have HNO := Lib.hid hno; clear hno
          rcases ndig_i32 hd with d1 | d1
          all_goals
            clear hd
            go_wp2_with fail
            go_ret2
            exact ⟨ans_no HNO.out, it_below1 _ _ _⟩
      · have hnx := fun ty => run_next_any (P := Tryz.prog) w d k ty hlt
        have hdh := (decode_high d k hlt (by omega)).1
        have hno := bad_digit HD.out hlt (by unfold isDig; omega)
        have HNO := Lib.hid hno; clear hno
        go_wp2_with fail
        go_ret2
        exact ⟨ans_no HNO.out, it_below1 _ _ _⟩
    · obtain rfl : k = d.size := by omega
      have hnx := fun ty => run_next_end (P := Tryz.prog) w d d.size ty hlt
      have htok := tok_of HD.out h9' HR.out
      have HTOK := Lib.hid htok; clear htok
      have htab2 := tab_below HT.out (it_below1 d w d.size)
      have HT2 := Lib.hid htab2; clear htab2
      by_cases hsg : signed s.data.toList
      · have hv : -((sv (d.data.toList.take d.size) : Nat) : Int) = pval s.data.toList (sv (d.data.toList.take d.size)) := (if_pos hsg).symm
        have hne := trim_ne HD.out hsg
        have HV := Lib.hid hv; clear hv
        have hq : (d.toList == s.toList) = false := by rw [ByteArray.toList_eq, ByteArray.toList_eq, beq_eq_false_iff_ne]; exact hne
        clear hne hsg
        by_cases hok : Lib.itoa (-((sv (d.data.toList.take d.size) : Nat) : Int)) = s.data.toList
        · have hf := fin_yes HD.out HTOK.out HV.out hok
          have hz := neq_no hok
          have HF := Lib.hid hf; clear hf hok
          go_wp2_with (go_at_call 101; go_must (refine (fmti_any (-((sv (d.data.toList.take d.size) : Nat) : Int)) _ (by omega) (by omega) HT2.out).mono ?_; rintro e w1 ⟨rfl, hb1⟩))
          go_ret2
          exact ⟨ans_yes HF.out.1 HF.out.2, (it_below1 _ _ _).trans (hb1.mono (it_below1 d w d.size).size)⟩
        · have hf := fin_no HD.out HTOK.out HV.out hok
          have hz := neq_yes hok
          have HF := Lib.hid hf; clear hf hok
          go_wp2_with (go_at_call 101; go_must (refine (fmti_any (-((sv (d.data.toList.take d.size) : Nat) : Int)) _ (by omega) (by omega) HT2.out).mono ?_; rintro e w1 ⟨rfl, hb1⟩))
          go_ret2
          exact ⟨ans_no HF.out, (it_below1 _ _ _).trans (hb1.mono (it_below1 d w d.size).size)⟩
      · have hv : ((sv (d.data.toList.take d.size) : Nat) : Int) = pval s.data.toList (sv (d.data.toList.take d.size)) := (if_neg hsg).symm
        have hne := trim_eq HD.out hsg
        have HV := Lib.hid hv; clear hv
        have hq : (d.toList == s.toList) = true := by rw [ByteArray.toList_eq, ByteArray.toList_eq, beq_iff_eq, hne]
        clear hne hsg
        by_cases hok : Lib.itoa (((sv (d.data.toList.take d.size) : Nat) : Int)) = s.data.toList
        · have hf := fin_yes HD.out HTOK.out HV.out hok
          have hz := neq_no hok
          have HF := Lib.hid hf; clear hf hok
          go_wp2_with (go_at_call 101; go_must (refine (fmti_any (((sv (d.data.toList.take d.size) : Nat) : Int)) _ (by omega) (by omega) HT2.out).mono ?_; rintro e w1 ⟨rfl, hb1⟩))
          go_ret2
          exact ⟨ans_yes HF.out.1 HF.out.2, (it_below1 _ _ _).trans (hb1.mono (it_below1 d w d.size).size)⟩
        · have hf := fin_no HD.out HTOK.out HV.out hok
          have hz := neq_yes hok
          have HF := Lib.hid hf; clear hf hok
          go_wp2_with (go_at_call 101; go_must (refine (fmti_any (((sv (d.data.toList.take d.size) : Nat) : Int)) _ (by omega) (by omega) HT2.out).mono ?_; rintro e w1 ⟨rfl, hb1⟩))
          go_ret2
          exact ⟨ans_no HF.out, (it_below1 _ _ _).trans (hb1.mono (it_below1 d w d.size).size)⟩
end Go.Proofs.YtcmnkhblnlmfpaaGreatDoor
