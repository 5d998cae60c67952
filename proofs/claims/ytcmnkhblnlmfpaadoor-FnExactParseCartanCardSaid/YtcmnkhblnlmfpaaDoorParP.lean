/-
  Plain facts on decimal texts: which text is the numeral of a number of at most nine digits.
-/
import Derived.Test.YtcmnkhblnlmfpaaDoorFmt
namespace Go.Proofs.YtcmnkhblnlmfpaaDoor

def isDig (b : UInt8) : Prop := 48 ≤ b.toNat ∧ b.toNat ≤ 57
instance (b : UInt8) : Decidable (isDig b) := by unfold isDig; exact inferInstance
def svStep (n : Nat) (b : UInt8) : Nat := if isDig b then n * 10 + (b.toNat - 48) else n
def sv (l : List UInt8) : Nat := l.foldl svStep 0
def cnt (l : List UInt8) : Nat := l.foldl (fun n b => if isDig b then n + 1 else n) 0
theorem sv_snoc (l : List UInt8) (c : UInt8) : sv (l ++ [c]) = if isDig c then sv l * 10 + (c.toNat - 48) else sv l := by simp [sv, svStep]
theorem cnt_snoc (l : List UInt8) (c : UInt8) : cnt (l ++ [c]) = if isDig c then cnt l + 1 else cnt l := by simp [cnt]
theorem snoc_ind {P : List UInt8 → Prop} (h0 : P []) (h1 : ∀ l c, P l → P (l ++ [c])) (l : List UInt8) : P l := by
  have h : ∀ (n : Nat) (l : List UInt8), l.length = n → P l := by
    intro n
    induction n with
    | zero => intro l hl; rw [List.eq_nil_of_length_eq_zero hl]; exact h0
    | succ n ih =>
      intro l hl
      have hne : l ≠ [] := by intro e; rw [e] at hl; simp at hl
      rw [← List.dropLast_concat_getLast hne]
      exact h1 _ _ (ih _ (by rw [List.length_dropLast]; omega))
  exact h _ l rfl
theorem cnt_le (l : List UInt8) : cnt l ≤ l.length := by
  refine snoc_ind (P := fun l => cnt l ≤ l.length) (by simp [cnt]) ?_ l
  intro l c h
  rw [cnt_snoc, List.length_append, List.length_singleton]
  split <;> omega
theorem sv_lt (l : List UInt8) : sv l < 10 ^ cnt l := by
  refine snoc_ind (P := fun l => sv l < 10 ^ cnt l) (by simp [sv, cnt]) ?_ l
  intro l c h
  rw [sv_snoc, cnt_snoc]
  split
  · rename_i hd
    unfold isDig at hd
    rw [Nat.pow_succ]; omega
  · exact h
theorem sv_small (l : List UInt8) (k : Nat) (h : cnt l ≤ k) : sv l < 10 ^ k := Nat.lt_of_lt_of_le (sv_lt l) (Nat.pow_le_pow_right (by omega) h)
def allDig (l : List UInt8) : Prop := ∀ b, b ∈ l → isDig b
theorem cnt_all (l : List UInt8) (h : allDig l) : cnt l = l.length := by
  revert h
  refine snoc_ind (P := fun l => allDig l → cnt l = l.length) (fun _ => rfl) ?_ l
  intro l c ih h
  rw [cnt_snoc, if_pos (h c (by simp)), ih (fun b hb => h b (by simp [hb]))]; simp

theorem u8_dig (k : Nat) (h : k < 10) : isDig (UInt8.ofNat (48 + k)) ∧ (UInt8.ofNat (48 + k)).toNat - 48 = k := by
  unfold isDig; rw [u8_natN _ (by omega)]; omega
theorem dec_all (n : Nat) : allDig (Lib.decDigits n) ∧ sv (Lib.decDigits n) = n := by
  induction n using Nat.strongRecOn with
  | ind n ih =>
    by_cases h : n < 10
    · rw [dec_small h]
      have hd := u8_dig n h
      refine ⟨fun b hb => ?_, ?_⟩
      · simp only [List.mem_singleton] at hb; rw [hb]; exact hd.1
      · have := sv_snoc [] (UInt8.ofNat (48 + n))
        rw [List.nil_append] at this
        rw [this, if_pos hd.1, hd.2]; simp [sv]
    · rw [dec_big h]
      obtain ⟨i1, i2⟩ := ih (n / 10) (by omega)
      have hd := u8_dig (n % 10) (by omega)
      refine ⟨fun b hb => ?_, ?_⟩
      · rcases List.mem_append.1 hb with hb | hb
        · exact i1 b hb
        · simp only [List.mem_singleton] at hb; rw [hb]; exact hd.1
      · rw [sv_snoc, if_pos hd.1, i2, hd.2]; omega
theorem not_dig45 : ¬ isDig 45 := by decide

/-- A '-' in front is a sign. -/
def signed (l : List UInt8) : Prop := l.head? = some 45
instance (l : List UInt8) : Decidable (signed l) := by unfold signed; exact inferInstance
def trim (l : List UInt8) : List UInt8 := if signed l then l.tail else l
def pval (l : List UInt8) (n : Nat) : Int := if signed l then -(n : Int) else n
def PV (l : List UInt8) : Int := pval l (sv (l.take 11))
def POk (l : List UInt8) : Prop := cnt (l.take 11) ≤ 9 ∧ l.length ≤ 10 ∧ Lib.itoa (PV l) = l
def TOk (l : List UInt8) : Prop := (trim l).length ≤ 9 ∧ allDig (trim l)

theorem dec_head (n : Nat) : ¬ signed (Lib.decDigits n) := by
  intro h
  unfold signed at h
  have hm : (45 : UInt8) ∈ Lib.decDigits n := List.mem_of_mem_head? (by rw [h]; rfl)
  exact not_dig45 ((dec_all n).1 45 hm)
theorem tail_cons {l : List UInt8} (h : signed l) : l = 45 :: l.tail := by
  unfold signed at h
  cases l with
  | nil => simp at h
  | cons a r => simp at h; rw [h]; rfl
theorem fold_cons45 (r : List UInt8) : sv (45 :: r) = sv r ∧ cnt (45 :: r) = cnt r := by
  constructor
  · simp only [sv, List.foldl_cons, svStep, if_neg not_dig45]
  · simp only [cnt, List.foldl_cons, if_neg not_dig45]
theorem tok_facts {l : List UInt8} (h : TOk l) : l.take 11 = l ∧ sv l = sv (trim l) ∧ cnt l ≤ 9 ∧ l.length ≤ 10 := by
  obtain ⟨h1, h2⟩ := h
  have hc := cnt_all _ h2
  unfold trim at *
  by_cases hs : signed l
  · rw [if_pos hs] at *
    have e := tail_cons hs
    have hf := fold_cons45 l.tail
    rw [← e] at hf
    have hl : l.length = l.tail.length + 1 := by rw [e]; simp
    exact ⟨List.take_of_length_le (by omega), hf.1, by omega, by omega⟩
  · rw [if_neg hs] at *
    exact ⟨List.take_of_length_le (by omega), rfl, by omega, by omega⟩
theorem itoa_cases (v : Int) : (v < 0 ∧ Lib.itoa v = 45 :: Lib.decDigits v.natAbs) ∨ (0 ≤ v ∧ Lib.itoa v = Lib.decDigits v.toNat) := by
  unfold Lib.itoa
  by_cases h : v < 0
  · exact Or.inl ⟨h, if_pos h⟩
  · exact Or.inr ⟨by omega, if_neg h⟩
theorem pok_tok {l : List UInt8} (h : POk l) : TOk l := by
  obtain ⟨h1, h2, h3⟩ := h
  rw [List.take_of_length_le (by omega)] at h1
  rcases itoa_cases (PV l) with ⟨_, e⟩ | ⟨_, e⟩
  · rw [h3] at e
    have hs : signed l := by rw [e]; rfl
    have ht : trim l = Lib.decDigits (PV l).natAbs := by
      unfold trim; rw [if_pos hs]; rw [congrArg List.tail e]; rfl
    have ha := (dec_all (PV l).natAbs).1
    have hf := (fold_cons45 (Lib.decDigits (PV l).natAbs)).2
    rw [← e, cnt_all _ ha] at hf
    unfold TOk
    rw [ht]
    exact ⟨by omega, ha⟩
  · rw [h3] at e
    have hs : ¬ signed l := by rw [e]; exact dec_head _
    have ha := (dec_all (PV l).toNat).1
    rw [← e] at ha
    unfold TOk trim
    rw [if_neg hs]
    have := cnt_all _ ha
    exact ⟨by omega, ha⟩
theorem pok_iff {l : List UInt8} (h : TOk l) : POk l ↔ Lib.itoa (pval l (sv (trim l))) = l := by
  obtain ⟨h1, h2, h3, h4⟩ := tok_facts h
  unfold POk PV
  rw [h1, h2]
  exact ⟨fun h => h.2.2, fun h => ⟨h3, h4, h⟩⟩
theorem pv_tok {l : List UInt8} (h : TOk l) : PV l = pval l (sv (trim l)) := by
  obtain ⟨h1, h2, h3, h4⟩ := tok_facts h
  unfold PV
  rw [h1, h2]

/-- What both answer. -/
def ParseAns (s : ByteArray) (e : Ending) : Prop :=
  (POk s.data.toList ∧ e = .returned (.tuple #[.int .i64 (PV s.data.toList), .bool true])) ∨ (¬ POk s.data.toList ∧ e = .returned (.tuple #[.int .i64 0, .bool false]))
theorem parseAns_one {s : ByteArray} {e e' : Ending} (h : ParseAns s e) (h' : ParseAns s e') : e = e' := by
  rcases h with ⟨h1, rfl⟩ | ⟨h1, rfl⟩ <;> rcases h' with ⟨h2, rfl⟩ | ⟨h2, rfl⟩
  · rfl
  · exact absurd h1 h2
  · exact absurd h2 h1
  · rfl
theorem ans_no {s : ByteArray} (h : ¬ POk s.data.toList) : ParseAns s (.returned (.tuple #[.int .i64 0, .bool false])) := Or.inr ⟨h, rfl⟩
theorem ans_yes {s : ByteArray} (h : POk s.data.toList) {v : Int} (hv : v = PV s.data.toList) : ParseAns s (.returned (.tuple #[.int .i64 v, .bool true])) := Or.inl ⟨h, by rw [hv]⟩
end Go.Proofs.YtcmnkhblnlmfpaaDoor
