/-
  Plain facts on decimal texts: which text is the numeral of a number of at most nine digits.
  ParseInt of the model: what each call returns.
-/
import Derived.Test.YtfjeghalkmkgoaaGreatDoorFW17
namespace Go.Proofs.YtfjeghalkmkgoaaGreatDoor

def isDig (b : UInt8) : Prop := 48 ≤ b.toNat ∧ b.toNat ≤ 57
instance (b : UInt8) : Decidable (isDig b) := by unfold isDig; exact inferInstance
def svStep (n : Nat) (b : UInt8) : Nat := if isDig b then n * 10 + (b.toNat - 48) else n
def sv (l : List UInt8) : Nat := l.foldl svStep 0
def cnt (l : List UInt8) : Nat := l.foldl (fun n b => if isDig b then n + 1 else n) 0
theorem sv_snoc (l : List UInt8) (c : UInt8) : sv (l ++ [c]) = if isDig c then sv l * 10 + (c.toNat - 48) else sv l := by simp [sv, svStep]
theorem cnt_snoc (l : List UInt8) (c : UInt8) : cnt (l ++ [c]) = if isDig c then cnt l + 1 else cnt l := by simp [cnt]
theorem snoc_ind {P : List UInt8 → Prop} (h0 : P []) (h1 : ∀ l c, P l → P (l ++ [c])) (l : List UInt8) : P l := by
  have h : ∀ (n : Nat) (l : List UInt8), l.length = n → P l := by
    intro n
    induction n with
    | zero => intro l hl; rw [List.eq_nil_of_length_eq_zero hl]; exact h0
    | succ n ih =>
      intro l hl
      have hne : l ≠ [] := by intro e; rw [e] at hl; simp at hl
      rw [← List.dropLast_concat_getLast hne]
      exact h1 _ _ (ih _ (by rw [List.length_dropLast]; omega))
  exact h _ l rfl
theorem cnt_le (l : List UInt8) : cnt l ≤ l.length := by
  refine snoc_ind (P := fun l => cnt l ≤ l.length) (by simp [cnt]) ?_ l
  intro l c h
  rw [cnt_snoc, List.length_append, List.length_singleton]
  split <;> omega
theorem sv_lt (l : List UInt8) : sv l < 10 ^ cnt l := by
  refine snoc_ind (P := fun l => sv l < 10 ^ cnt l) (by simp [sv, cnt]) ?_ l
  intro l c h
  rw [sv_snoc, cnt_snoc]
  split
  · rename_i hd
    unfold isDig at hd
    rw [Nat.pow_succ]; omega
  · exact h
theorem sv_small (l : List UInt8) (k : Nat) (h : cnt l ≤ k) : sv l < 10 ^ k := Nat.lt_of_lt_of_le (sv_lt l) (Nat.pow_le_pow_right (by omega) h)
def allDig (l : List UInt8) : Prop := ∀ b, b ∈ l → isDig b
theorem cnt_all (l : List UInt8) (h : allDig l) : cnt l = l.length := by
  revert h
  refine snoc_ind (P := fun l => allDig l → cnt l = l.length) (fun _ => rfl) ?_ l
  intro l c ih h
  rw [cnt_snoc, if_pos (h c (by simp)), ih (fun b hb => h b (by simp [hb]))]; simp

theorem u8_dig (k : Nat) (h : k < 10) : isDig (UInt8.ofNat (48 + k)) ∧ (UInt8.ofNat (48 + k)).toNat - 48 = k := by
  unfold isDig; rw [u8_natN _ (by omega)]; omega
theorem dec_all (n : Nat) : allDig (Lib.decDigits n) ∧ sv (Lib.decDigits n) = n := by
  induction n using Nat.strongRecOn with
  | ind n ih =>
    by_cases h : n < 10
    · rw [dec_small h]
      have hd := u8_dig n h
      refine ⟨fun b hb => ?_, ?_⟩
      · simp only [List.mem_singleton] at hb; rw [hb]; exact hd.1
      · have := sv_snoc [] (UInt8.ofNat (48 + n))
        rw [List.nil_append] at this
        rw [this, if_pos hd.1, hd.2]; simp [sv]
    · rw [dec_big h]
      obtain ⟨i1, i2⟩ := ih (n / 10) (by omega)
      have hd := u8_dig (n % 10) (by omega)
      refine ⟨fun b hb => ?_, ?_⟩
      · rcases List.mem_append.1 hb with hb | hb
        · exact i1 b hb
        · simp only [List.mem_singleton] at hb; rw [hb]; exact hd.1
      · rw [sv_snoc, if_pos hd.1, i2, hd.2]; omega
theorem not_dig45 : ¬ isDig 45 := by decide

/-- A '-' in front is a sign. -/
def signed (l : List UInt8) : Prop := l.head? = some 45
instance (l : List UInt8) : Decidable (signed l) := by unfold signed; exact inferInstance
def trim (l : List UInt8) : List UInt8 := if signed l then l.tail else l
def pval (l : List UInt8) (n : Nat) : Int := if signed l then -(n : Int) else n
def PV (l : List UInt8) : Int := pval l (sv (l.take 11))
def POk (l : List UInt8) : Prop := cnt (l.take 11) ≤ 9 ∧ l.length ≤ 10 ∧ Lib.itoa (PV l) = l
def TOk (l : List UInt8) : Prop := (trim l).length ≤ 9 ∧ allDig (trim l)

theorem dec_head (n : Nat) : ¬ signed (Lib.decDigits n) := by
  intro h
  unfold signed at h
  have hm : (45 : UInt8) ∈ Lib.decDigits n := List.mem_of_mem_head? (by rw [h]; rfl)
  exact not_dig45 ((dec_all n).1 45 hm)
theorem tail_cons {l : List UInt8} (h : signed l) : l = 45 :: l.tail := by
  unfold signed at h
  cases l with
  | nil => simp at h
  | cons a r => simp at h; rw [h]; rfl
theorem fold_cons45 (r : List UInt8) : sv (45 :: r) = sv r ∧ cnt (45 :: r) = cnt r := by
  constructor
  · simp only [sv, List.foldl_cons, svStep, if_neg not_dig45]
  · simp only [cnt, List.foldl_cons, if_neg not_dig45]
theorem tok_facts {l : List UInt8} (h : TOk l) : l.take 11 = l ∧ sv l = sv (trim l) ∧ cnt l ≤ 9 ∧ l.length ≤ 10 := by
  obtain ⟨h1, h2⟩ := h
  have hc := cnt_all _ h2
  unfold trim at *
  by_cases hs : signed l
  · rw [if_pos hs] at *
    have e := tail_cons hs
    have hf := fold_cons45 l.tail
    rw [← e] at hf
    have hl : l.length = l.tail.length + 1 := by rw [e]; simp
    exact ⟨List.take_of_length_le (by omega), hf.1, by omega, by omega⟩
  · rw [if_neg hs] at *
    exact ⟨List.take_of_length_le (by omega), rfl, by omega, by omega⟩
theorem itoa_cases (v : Int) : (v < 0 ∧ Lib.itoa v = 45 :: Lib.decDigits v.natAbs) ∨ (0 ≤ v ∧ Lib.itoa v = Lib.decDigits v.toNat) := by
  unfold Lib.itoa
  by_cases h : v < 0
  · exact Or.inl ⟨h, if_pos h⟩
  · exact Or.inr ⟨by omega, if_neg h⟩
theorem pok_tok {l : List UInt8} (h : POk l) : TOk l := by
  obtain ⟨h1, h2, h3⟩ := h
  rw [List.take_of_length_le (by omega)] at h1
  rcases itoa_cases (PV l) with ⟨_, e⟩ | ⟨_, e⟩
  · rw [h3] at e
    have hs : signed l := by rw [e]; rfl
    have ht : trim l = Lib.decDigits (PV l).natAbs := by
      unfold trim; rw [if_pos hs]; rw [congrArg List.tail e]; rfl
    have ha := (dec_all (PV l).natAbs).1
    have hf := (fold_cons45 (Lib.decDigits (PV l).natAbs)).2
    rw [← e, cnt_all _ ha] at hf
    unfold TOk
    rw [ht]
    exact ⟨by omega, ha⟩
  · rw [h3] at e
    have hs : ¬ signed l := by rw [e]; exact dec_head _
    have ha := (dec_all (PV l).toNat).1
    rw [← e] at ha
    unfold TOk trim
    rw [if_neg hs]
    have := cnt_all _ ha
    exact ⟨by omega, ha⟩
theorem pok_iff {l : List UInt8} (h : TOk l) : POk l ↔ Lib.itoa (pval l (sv (trim l))) = l := by
  obtain ⟨h1, h2, h3, h4⟩ := tok_facts h
  unfold POk PV
  rw [h1, h2]
  exact ⟨fun h => h.2.2, fun h => ⟨h3, h4, h⟩⟩
theorem pv_tok {l : List UInt8} (h : TOk l) : PV l = pval l (sv (trim l)) := by
  obtain ⟨h1, h2, h3, h4⟩ := tok_facts h
  unfold PV
  rw [h1, h2]

/-- What both answer. -/
def ParseAns (s : ByteArray) (e : Ending) : Prop :=
  (POk s.data.toList ∧ e = .returned (.tuple #[.int .i64 (PV s.data.toList), .bool true])) ∨ (¬ POk s.data.toList ∧ e = .returned (.tuple #[.int .i64 0, .bool false]))
theorem parseAns_one {s : ByteArray} {e e' : Ending} (h : ParseAns s e) (h' : ParseAns s e') : e = e' := by
  rcases h with ⟨h1, rfl⟩ | ⟨h1, rfl⟩ <;> rcases h' with ⟨h2, rfl⟩ | ⟨h2, rfl⟩
  · rfl
  · exact absurd h1 h2
  · exact absurd h2 h1
  · rfl
theorem ans_no {s : ByteArray} (h : ¬ POk s.data.toList) : ParseAns s (.returned (.tuple #[.int .i64 0, .bool false])) := Or.inr ⟨h, rfl⟩
theorem ans_yes {s : ByteArray} (h : POk s.data.toList) {v : Int} (hv : v = PV s.data.toList) : ParseAns s (.returned (.tuple #[.int .i64 v, .bool true])) := Or.inl ⟨h, by rw [hv]⟩
end Go.Proofs.YtfjeghalkmkgoaaGreatDoor
namespace Go.Proofs.YtfjeghalkmkgoaaGreatDoor
open Go.RowKit

theorem take_byte (s : ByteArray) (k : Nat) (h : k < s.size) : s.data.toList.take (k + 1) = s.data.toList.take k ++ [s[k]] := by
  rw [List.take_succ_eq_append_getElem (by simpa using h)]; rfl
theorem sv_step_yes (s : ByteArray) (k : Nat) (h : k < s.size) (hd : isDig (s[k])) : sv (s.data.toList.take (k + 1)) = sv (s.data.toList.take k) * 10 + ((s[k]).toNat - 48) := by
  rw [take_byte s k h, sv_snoc, if_pos hd]
theorem sv_step_no (s : ByteArray) (k : Nat) (h : k < s.size) (hd : ¬ isDig (s[k])) : sv (s.data.toList.take (k + 1)) = sv (s.data.toList.take k) := by
  rw [take_byte s k h, sv_snoc, if_neg hd]
theorem cnt_step_yes (s : ByteArray) (k : Nat) (h : k < s.size) (hd : isDig (s[k])) : cnt (s.data.toList.take (k + 1)) = cnt (s.data.toList.take k) + 1 := by
  rw [take_byte s k h, cnt_snoc, if_pos hd]
theorem cnt_step_no (s : ByteArray) (k : Nat) (h : k < s.size) (hd : ¬ isDig (s[k])) : cnt (s.data.toList.take (k + 1)) = cnt (s.data.toList.take k) := by
  rw [take_byte s k h, cnt_snoc, if_neg hd]
theorem cnt_take (s : ByteArray) (k : Nat) : cnt (s.data.toList.take k) ≤ k := Nat.le_trans (cnt_le _) (List.length_take_le _ _)
theorem sv_take_le (s : ByteArray) (k : Nat) (h : k ≤ 11) : sv (s.data.toList.take k) ≤ 99999999999 := by
  have h1 := sv_small (s.data.toList.take k) 11 (Nat.le_trans (cnt_take s k) h)
  have : (10 : Nat) ^ 11 = 100000000000 := by decide
  omega

set_option maxHeartbeats 400000 in
set_option maxRecDepth 100000 in
theorem pars_long (s : ByteArray) (w : World) (hs : s.size ≤ maxLen) (h11 : 11 ≤ s.size) :
    Calls Tryz.prog 69 #[.string s] w fun e w' => ParseAns s e ∧ Below w.heap.size w w' := by
  unfold maxLen at hs
  have hno : ¬ POk s.data.toList := fun h => by have := h.2.1; simp at this; omega
  have HNO := Lib.hid hno; clear hno
  go_enter Tryz.func69, Tryz.ntmps69
  go_wp2_with fail
  go_loop [4, 5, 6] (fun n c i => ∃ k : Nat, k ≤ 11 ∧ i = .int .i64 k ∧ n = .int .i64 (sv (s.data.toList.take k)) ∧ c = .int .i64 (cnt (s.data.toList.take k))) (fun _ _ i => 11 - (intOf i).toNat)
  case atStart => exact ⟨0, Nat.zero_le _, rfl, rfl, rfl⟩
  case round =>
    obtain ⟨k, hk, rfl, rfl, rfl⟩ := hrel
    have hsv := sv_take_le s k hk
    have hcn := cnt_take s k
    by_cases hlt : k < 11
    · have hks : k < s.size := by omega
      by_cases hd : isDig (s[k]'hks)
      · have e1 := sv_step_yes s k hks hd
        have e2 := cnt_step_yes s k hks hd
        have E1 := Lib.hid e1; clear e1
        have E2 := Lib.hid e2; clear e2
        have d1 := hd.1
        have d2 := hd.2
        clear hd
        go_wp2_with fail
        go_round
        case rel => exact ⟨k + 1, by omega, by go_num, by rw [E1.out]; go_num, by rw [E2.out]; go_num⟩
        case measure => simp [intOf]; omega
      · have e1 := sv_step_no s k hks hd
        have e2 := cnt_step_no s k hks hd
        have E1 := Lib.hid e1; clear e1
        have E2 := Lib.hid e2; clear e2
        have d1 : (s[k]'hks).toNat < 48 ∨ 57 < (s[k]'hks).toNat := by unfold isDig at hd; omega
        clear hd
        rcases d1 with d1 | d1
        all_goals
          go_wp2_with fail
          go_round
          case rel => exact ⟨k + 1, by omega, by go_num, by rw [E1.out], by rw [E2.out]⟩
          case measure => simp [intOf]; omega
    · obtain rfl : k = 11 := by omega
      go_wp2_with fail
      all_goals go_ret2
      all_goals exact ⟨ans_no HNO.out, Below.refl _ _⟩

theorem neq_no {l : List UInt8} {s : ByteArray} (h : l = s.data.toList) : (l == s.toList) = true := by
  rw [ByteArray.toList_eq, beq_iff_eq]; exact h
theorem neq_yes {l : List UInt8} {s : ByteArray} (h : ¬ l = s.data.toList) : (l == s.toList) = false := by
  rw [ByteArray.toList_eq, beq_eq_false_iff_ne]; exact h
theorem take_all (s : ByteArray) : s.data.toList.take s.size = s.data.toList := List.take_of_length_le (by simp)
theorem take_all11 (s : ByteArray) (h : s.size ≤ 10) : s.data.toList.take 11 = s.data.toList.take s.size := by
  rw [take_all, List.take_of_length_le (by simp; omega)]
theorem short_ok (s : ByteArray) (h10 : s.size ≤ 10) (h9 : cnt (s.data.toList.take s.size) ≤ 9) {v : Int} (hv : v = PV s.data.toList) (h : Lib.itoa v = s.data.toList) : POk s.data.toList :=
  ⟨by rw [take_all11 s h10]; exact h9, by simpa using h10, by rw [← hv]; exact h⟩
theorem short_bad (s : ByteArray) {v : Int} (hv : v = PV s.data.toList) (h : ¬ Lib.itoa v = s.data.toList) : ¬ POk s.data.toList := fun hp => h (by rw [hv]; exact hp.2.2)
theorem signed_byte (s : ByteArray) (h : 0 < s.size) : signed s.data.toList ↔ (s[0]).toNat = 45 := by
  unfold signed
  have e : s.data.toList[0]? = some (s[0]) := by rw [List.getElem?_eq_getElem (by simpa using h)]; rfl
  rw [List.head?_eq_getElem?, e, Option.some.injEq, u8_ext]; rfl
theorem pv_un (s : ByteArray) (h10 : s.size ≤ 10) (h : ¬ signed s.data.toList) : ((sv (s.data.toList.take s.size) : Nat) : Int) = PV s.data.toList := by
  unfold PV pval; rw [if_neg h, take_all11 s h10]
theorem pv_si (s : ByteArray) (h10 : s.size ≤ 10) (h : signed s.data.toList) : -((sv (s.data.toList.take s.size) : Nat) : Int) = PV s.data.toList := by
  unfold PV pval; rw [if_pos h, take_all11 s h10]

set_option maxHeartbeats 1000000 in
set_option maxRecDepth 100000 in
theorem pars_short (s : ByteArray) (w : World) (h10 : s.size ≤ 10) :
    Calls Tryz.prog 69 #[.string s] w fun e w' => ParseAns s e ∧ Below w.heap.size w w' := by
  go_enter Tryz.func69, Tryz.ntmps69
  go_wp2_with fail
  go_loop [4, 5, 6] (fun n c i => ∃ k : Nat, k ≤ s.size ∧ i = .int .i64 k ∧ n = .int .i64 (sv (s.data.toList.take k)) ∧ c = .int .i64 (cnt (s.data.toList.take k))) (fun _ _ i => 11 - (intOf i).toNat)
  case atStart => exact ⟨0, Nat.zero_le _, rfl, rfl, rfl⟩
  case round =>
    obtain ⟨k, hk, rfl, rfl, rfl⟩ := hrel
    have hsv := sv_take_le s k (by omega)
    have hcn := cnt_take s k
    by_cases hks : k < s.size
    · by_cases hd : isDig (s[k]'hks)
      · have e1 := sv_step_yes s k hks hd
        have e2 := cnt_step_yes s k hks hd
        have E1 := Lib.hid e1; clear e1
        have E2 := Lib.hid e2; clear e2
        have d1 := hd.1
        have d2 := hd.2
        clear hd
        go_wp2_with fail
        go_round
        case rel => exact ⟨k + 1, by omega, by go_num, by rw [E1.out]; go_num, by rw [E2.out]; go_num⟩
        case measure => simp [intOf]; omega
      · have e1 := sv_step_no s k hks hd
        have e2 := cnt_step_no s k hks hd
        have E1 := Lib.hid e1; clear e1
        have E2 := Lib.hid e2; clear e2
        have d1 : (s[k]'hks).toNat < 48 ∨ 57 < (s[k]'hks).toNat := by unfold isDig at hd; omega
        clear hd
        rcases d1 with d1 | d1
        all_goals
          go_wp2_with fail
          go_round
          case rel => exact ⟨k + 1, by omega, by go_num, by rw [E1.out], by rw [E2.out]⟩
          case measure => simp [intOf]; omega
    · obtain rfl : k = s.size := by omega
      by_cases h9 : 9 < cnt (s.data.toList.take s.size)
      · have hno : ¬ POk s.data.toList := fun h => by have := h.1; rw [take_all11 s h10] at this; omega
        have HNO := Lib.hid hno; clear hno
        go_wp2_with fail
        all_goals go_ret2
        all_goals exact ⟨ans_no HNO.out, Below.refl _ _⟩
      have h9' : cnt (s.data.toList.take s.size) ≤ 9 := by omega
      have H9 := Lib.hid h9
      have hd9 : decide (9 < ((cnt (s.data.toList.take s.size) : Nat) : Int)) = false := by rw [decide_eq_false_iff_not]; omega
      have hd10 : decide (10 < ((s.size : Nat) : Int)) = false := by rw [decide_eq_false_iff_not]; omega
      clear h9
      by_cases h0 : 0 < s.size
      · by_cases hsg : signed s.data.toList
        · have hb : ((s[0]'h0).toNat : Int) = 45 := by have := (signed_byte s h0).1 hsg; omega
          have hbq : (((s[0]'h0).toNat : Int) == 45) = true := by rw [beq_iff_eq]; exact hb
          have hpv := pv_si s h10 hsg
          have HPV := Lib.hid hpv; clear hpv hb hsg
          by_cases hok : Lib.itoa (-((sv (s.data.toList.take s.size) : Nat) : Int)) = s.data.toList
          · have hq := neq_no hok
            have HOK := Lib.hid hok; clear hok
            go_wp2_with (go_at_call 51; go_must (refine (fmts_any (-((sv (s.data.toList.take s.size) : Nat) : Int)) _ (by omega) (by omega)).mono ?_; rintro e w1 ⟨rfl, hb1⟩))
            go_ret2
            exact ⟨ans_yes (short_ok s h10 (by have := H9.out; omega) HPV.out HOK.out) HPV.out, hb1⟩
          · have hq := neq_yes hok
            have HOK := Lib.hid hok; clear hok
            go_wp2_with (go_at_call 51; go_must (refine (fmts_any (-((sv (s.data.toList.take s.size) : Nat) : Int)) _ (by omega) (by omega)).mono ?_; rintro e w1 ⟨rfl, hb1⟩))
            go_ret2
            exact ⟨ans_no (short_bad s HPV.out HOK.out), hb1⟩

        · have hb : ¬ ((s[0]'h0).toNat : Int) = 45 := fun e => hsg ((signed_byte s h0).2 (by omega))
          have hbq : (((s[0]'h0).toNat : Int) == 45) = false := by rw [beq_eq_false_iff_ne]; exact hb
          have hpv := pv_un s h10 hsg
          have HPV := Lib.hid hpv; clear hpv hb hsg
          by_cases hok : Lib.itoa (((sv (s.data.toList.take s.size) : Nat) : Int)) = s.data.toList
          · have hq := neq_no hok
            have HOK := Lib.hid hok; clear hok
            go_wp2_with (go_at_call 51; go_must (refine (fmts_any (((sv (s.data.toList.take s.size) : Nat) : Int)) _ (by omega) (by omega)).mono ?_; rintro e w1 ⟨rfl, hb1⟩))
            go_ret2
            exact ⟨ans_yes (short_ok s h10 (by have := H9.out; omega) HPV.out HOK.out) HPV.out, hb1⟩
          · have hq := neq_yes hok
            have HOK := Lib.hid hok; clear hok
            go_wp2_with (go_at_call 51; go_must (refine (fmts_any (((sv (s.data.toList.take s.size) : Nat) : Int)) _ (by omega) (by omega)).mono ?_; rintro e w1 ⟨rfl, hb1⟩))
            go_ret2
            exact ⟨ans_no (short_bad s HPV.out HOK.out), hb1⟩

      · have hsg : ¬ signed s.data.toList := fun h => by
          have := congrArg List.length (tail_cons h)
          simp at this; omega
        have hpv := pv_un s h10 hsg
        have HPV := Lib.hid hpv; clear hpv hsg
        by_cases hok : Lib.itoa (((sv (s.data.toList.take s.size) : Nat) : Int)) = s.data.toList
        · have hq := neq_no hok
          have HOK := Lib.hid hok; clear hok
          go_wp2_with (go_at_call 51; go_must (refine (fmts_any (((sv (s.data.toList.take s.size) : Nat) : Int)) _ (by omega) (by omega)).mono ?_; rintro e w1 ⟨rfl, hb1⟩))
          go_ret2
          exact ⟨ans_yes (short_ok s h10 (by have := H9.out; omega) HPV.out HOK.out) HPV.out, hb1⟩
        · have hq := neq_yes hok
          have HOK := Lib.hid hok; clear hok
          go_wp2_with (go_at_call 51; go_must (refine (fmts_any (((sv (s.data.toList.take s.size) : Nat) : Int)) _ (by omega) (by omega)).mono ?_; rintro e w1 ⟨rfl, hb1⟩))
          go_ret2
          exact ⟨ans_no (short_bad s HPV.out HOK.out), hb1⟩

theorem pars_any (s : ByteArray) (w : World) (hs : s.size ≤ maxLen) :
    Calls Tryz.prog 69 #[.string s] w fun e w' => ParseAns s e ∧ Below w.heap.size w w' := by
  rcases Nat.lt_or_ge s.size 11 with h | h
  · exact pars_short s w (by omega)
  · exact pars_long s w hs h
end Go.Proofs.YtfjeghalkmkgoaaGreatDoor
