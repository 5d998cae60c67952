/-
  The laws' own helpers on ints and matrices: sizes, equality, copies: what each call returns.
-/
import Derived.BigQuiet
import Derived.Deep.QuietTactic
import Derived.OwnWalk
import Derived.Lib.Hide
import Derived.Test.YtbmghddmilgngaaLc01
namespace Go.Proofs.Ytbmghddmilgngaa
open Go.RowKit

def szSum (m : List (List Int)) : Nat := m.length + (m.map List.length).sum
def szI (left n : Nat) : Int := if n ≤ left then (left : Int) - n else -1
theorem szI_yes {left n : Nat} (h : n ≤ left) : szI left n = (left : Int) - n := if_pos h
theorem szI_no {left n : Nat} (h : ¬ n ≤ left) : szI left n = -1 := if_neg h
theorem ret_int {a b : Int} (h : a = b) : Ending.returned (.int .i64 a) = .returned (.int .i64 b) := by rw [h]

set_option maxHeartbeats 400000 in
theorem szS_any (a : Option Addr) (n cap left : Nat) (w : World) (hn : n ≤ maxLen) (hl : left ≤ 1048576) :
    Calls Try.prog 63 #[.slice a n cap, .int .i64 left] w fun e w' => e = .returned (.int .i64 (szI left n)) ∧ w = w' := by
  unfold maxLen at hn
  by_cases h : n ≤ left
  · have hv := szI_yes h
    have HV := Lib.hid hv; clear hv
    go_enter Try.func63, Try.ntmps63
    go_wp2
    go_ret
    exact ⟨ret_int HV.out.symm, rfl⟩
  · have hv := szI_no h
    have HV := Lib.hid hv; clear hv
    go_enter Try.func63, Try.ntmps63
    go_wp2
    go_ret
    exact ⟨ret_int HV.out.symm, rfl⟩

theorem sum_take_succ (m : List (List Int)) (k : Nat) (h : k < m.length) : ((m.take (k + 1)).map List.length).sum = ((m.take k).map List.length).sum + m[k].length := by
  rw [List.take_succ_eq_append_getElem h, List.map_append, List.sum_append]
  simp only [List.map_cons, List.map_nil, List.sum_cons, List.sum_nil]; omega
theorem sum_take_le (m : List (List Int)) (k : Nat) : ((m.take k).map List.length).sum ≤ (m.map List.length).sum := by
  have h := congrArg List.sum (congrArg (List.map List.length) (List.take_append_drop k m))
  rw [List.map_append, List.sum_append] at h
  omega

def SzRel (n : Nat) (m : List (List Int)) (left k r : Nat) : Prop := r + n + ((m.take k).map List.length).sum = left
/-- What every row of a value that is read keeps to. -/
def RowsFit (m : List (List Int)) : Prop := m.length ≤ maxLen ∧ ∀ j (h : j < m.length), m[j].length ≤ maxLen

set_option maxHeartbeats 400000 in
theorem szSS_any (B : Nat) (v : Value) (m : List (List Int)) (left : Nat) (w : World) (hm : MatB B w v m) (hf : RowsFit m) (hl : left ≤ 1048576) :
    Calls Try.prog 33 #[v, .int .i64 left] w fun e w' => e = .returned (.int .i64 (szI left (szSum m))) ∧ w = w' := by
  obtain ⟨a, cap, rfl⟩ := hm.slice
  have hlen := hf.1
  have HM := Lib.hid hm; clear hm
  have HF := Lib.hid hf; clear hf
  generalize hn : m.length = n at *
  unfold maxLen at hlen
  have HN := Lib.hid hn; clear hn
  by_cases h0 : n ≤ left
  · go_enter Try.func33, Try.ntmps33
    go_wp2_with fail
    go_loop [1, 5] (fun l i => ∃ (k r : Nat), k ≤ n ∧ i = .int .i64 k ∧ l = .int .i64 r ∧ r ≤ left ∧ SzRel n m left k r) (fun _ i => n - (intOf i).toNat)
    case atStart => exact ⟨0, left - n, Nat.zero_le _, rfl, by go_num, by omega, by unfold SzRel; simp; omega⟩
    case round =>
      obtain ⟨k, r, hk, rfl, rfl, hr, hrel⟩ := hrel
      have HREL := Lib.hid hrel; clear hrel
      by_cases hlt : k < n
      · obtain ⟨b, off, hkl, rfl, hb, ra, rcap, hcell, hrow⟩ := HM.out.get hlt
        have hrl := HF.out.2 k hkl
        have hsucc := sum_take_succ m k hkl
        have HS := Lib.hid hsucc; clear hsucc hrow
        generalize hrn : m[k].length = rn at *
        have HRN := Lib.hid hrn; clear hrn
        go_wp2_with fail
        refine (szS_any ra rn rcap r _ hrl (by omega)).mono ?_
        rintro e w1 ⟨rfl, rfl⟩
        by_cases h1 : rn ≤ r
        · rw [szI_yes h1]
          go_wp2_with fail
          go_round
          case rel => exact ⟨k + 1, r - rn, by omega, by go_num, by go_num, by omega, by have := HREL.out; have h2 := HS.out; unfold SzRel at this ⊢; omega⟩
          case measure => simp [intOf]; omega
        · rw [szI_no h1]
          have hbad : ¬ szSum m ≤ left := by
            have := HREL.out; have h2 := HS.out; have h3 := sum_take_le m (k + 1); have h4 := HN.out
            unfold SzRel at this; unfold szSum; omega
          have hv := szI_no hbad
          have HV := Lib.hid hv; clear hv hbad
          go_wp2_with fail
          go_ret
          exact ⟨ret_int HV.out.symm, rfl⟩
      · obtain rfl : k = n := by omega
        have hgood : szSum m ≤ left ∧ (r : Int) = (left : Int) - (szSum m : Nat) := by
          have := HREL.out; have h4 := HN.out
          unfold SzRel at this
          rw [List.take_of_length_le (by omega)] at this
          unfold szSum; omega
        have hv := (szI_yes hgood.1).trans hgood.2.symm
        have HV := Lib.hid hv; clear hv hgood
        go_wp2_with fail
        go_ret
        exact ⟨ret_int HV.out.symm, rfl⟩
  · have hv := szI_no (left := left) (n := szSum m) (by have := HN.out; unfold szSum; omega)
    have HV := Lib.hid hv; clear hv
    go_enter Try.func33, Try.ntmps33
    go_wp2_with fail
    go_ret
    exact ⟨ret_int HV.out.symm, rfl⟩

/-- Two lists are the same. -/
def eqL (a b : List Int) : Bool := decide (a = b)
theorem eqL_yes {a b : List Int} (h : a = b) : eqL a b = true := decide_eq_true h
theorem eqL_no {a b : List Int} (h : ¬ a = b) : eqL a b = false := decide_eq_false h
theorem ret_boolean {a b : Bool} (h : a = b) : Ending.returned (.bool a) = .returned (.bool b) := by rw [h]
def Pre (a b : List Int) (k : Nat) : Prop := a.take k = b.take k
theorem pre_step {a b : List Int} {k : Nat} (ha : k < a.length) (hb : k < b.length) (h : Pre a b k) (he : a[k] = b[k]) : Pre a b (k + 1) := by
  unfold Pre at *
  rw [List.take_succ_eq_append_getElem ha, List.take_succ_eq_append_getElem hb, h, he]

set_option maxHeartbeats 1000000 in
theorem eqS_any (B : Nat) (v v' : Value) (l l' : List Int) (w : World) (h : RowB B w v l) (h' : RowB B w v' l') (hl : l.length ≤ maxLen) (hl' : l'.length ≤ maxLen) :
    Calls Try.prog 37 #[v, v'] w fun e w' => e = .returned (.bool (eqL l l')) ∧ ∃ q, w' = w.drewN q := by
  obtain ⟨a, cap, rfl⟩ := h.slice
  obtain ⟨a', cap', rfl⟩ := h'.slice
  have HR := Lib.hid h; clear h
  have HR' := Lib.hid h'; clear h'
  generalize hn : l.length = n at *
  generalize hn' : l'.length = n' at *
  unfold maxLen at hl hl'
  have HN := Lib.hid hn; clear hn
  have HN' := Lib.hid hn'; clear hn'
  by_cases hlen : n = n'
  · subst hlen
    go_enter Try.func37, Try.ntmps37
    go_wp2_with fail
    go_loopw [5] (fun i wr => ∃ (k q : Nat), k ≤ n ∧ i = .int .i64 k ∧ wr = w.drewN q ∧ Pre l l' k) (fun i _ => n - (intOf i).toNat)
    case atStart => exact ⟨0, 0, Nat.zero_le _, rfl, rfl, rfl⟩
    case round =>
      obtain ⟨k, q, hk, rfl, rfl, hp⟩ := hrel
      have HP := Lib.hid hp; clear hp
      by_cases hlt : k < n
      · obtain ⟨b, off, hkl, rfl, hb, hc⟩ := HR.out.get hlt
        obtain ⟨b', off', hkl', rfl, hb', hc'⟩ := HR'.out.get hlt
        by_cases he : l[k] = l'[k]
        · have hst := pre_step hkl hkl' HP.out he
          have HST := Lib.hid hst; clear hst
          rw [← he] at hc'
          clear he
          generalize l[k] = x at *
          go_wp2_with fail
          go_quiet (fail)
          go_wp2_with fail
          exact ⟨⟨k + 1, q + nq, by omega, by go_num, rfl, HST.out⟩, by simp [intOf]; omega⟩
        · have hne : ¬ l = l' := fun e => he (by subst e; rfl)
          have hv := eqL_no hne
          have HV := Lib.hid hv; clear hv hne
          generalize hx : l[k] = x at *
          generalize hy : l'[k] = y at *
          have hxy : (x != y) = true := by rw [bne_iff_ne]; exact he
          have hxy' : (x == y) = false := by rw [beq_eq_false_iff_ne]; exact he
          clear hx hy he
          go_wp2_with fail
          go_quiet (fail)
          go_wp2_with fail
          go_ret
          exact ⟨ret_boolean HV.out.symm, q + nq, World.drewN_drewN _ _ _⟩
      · obtain rfl : k = n := by omega
        have heq : l = l' := by
          have h1 := HP.out
          unfold Pre at h1
          rw [List.take_of_length_le (by rw [HN.out]; exact Nat.le_refl _), List.take_of_length_le (by rw [HN'.out]; exact Nat.le_refl _)] at h1
          exact h1
        have hv := eqL_yes heq
        have HV := Lib.hid hv; clear hv heq
        go_wp2_with fail
        go_ret
        exact ⟨ret_boolean HV.out.symm, _, rfl⟩
  · have hne : ¬ l = l' := fun e => hlen (by rw [← HN.out, ← HN'.out, e])
    have hv := eqL_no hne
    have HV := Lib.hid hv; clear hv hne
    have hq : ((n : Int) != (n' : Int)) = true := by rw [bne_iff_ne]; omega
    clear hlen
    go_enter Try.func37, Try.ntmps37
    go_wp2_with fail
    all_goals go_ret
    all_goals exact ⟨ret_boolean HV.out.symm, 0, rfl⟩

/-- Two matrices are the same. -/
def eqM (a b : List (List Int)) : Bool := decide (a = b)
theorem eqM_yes {a b : List (List Int)} (h : a = b) : eqM a b = true := decide_eq_true h
theorem eqM_no {a b : List (List Int)} (h : ¬ a = b) : eqM a b = false := decide_eq_false h
def PreM (a b : List (List Int)) (k : Nat) : Prop := a.take k = b.take k
theorem preM_step {a b : List (List Int)} {k : Nat} (ha : k < a.length) (hb : k < b.length) (h : PreM a b k) (he : a[k] = b[k]) : PreM a b (k + 1) := by
  unfold PreM at *
  rw [List.take_succ_eq_append_getElem ha, List.take_succ_eq_append_getElem hb, h, he]
theorem RowB.drewN {B : Nat} {w : World} {v : Value} {l : List Int} (h : RowB B w v l) (q : Nat) : RowB B (w.drewN q) v l := h

/-- A callee that only draws, met in a region behind other draws. -/
theorem quiet_more {P : Program} {f : FuncId} {args : Array Value} {w : World} {v : Value} (h : ∀ x, Calls P f args (w.drewN x) fun e w' => e = .returned v ∧ ∃ m, w' = (w.drewN x).drewN m) (a n : Nat) :
    Calls P f args (w.drewN (a + n)) fun e w'' => e = .returned v ∧ ∃ m, w'' = w.drewN (a + m) :=
  (h (a + n)).mono fun _ _ ⟨he, m, hm⟩ => ⟨he, n + m, by rw [hm, World.drewN_drewN, Nat.add_assoc]⟩

set_option maxHeartbeats 1000000 in
theorem eqSS_any (B : Nat) (v v' : Value) (m m' : List (List Int)) (w : World) (h : MatB B w v m) (h' : MatB B w v' m') (hf : RowsFit m) (hf' : RowsFit m') :
    Calls Try.prog 36 #[v, v'] w fun e w' => e = .returned (.bool (eqM m m')) ∧ ∃ q, w' = w.drewN q := by
  obtain ⟨a, cap, rfl⟩ := h.slice
  obtain ⟨a', cap', rfl⟩ := h'.slice
  have hl := hf.1
  have hl' := hf'.1
  have HR := Lib.hid h; clear h
  have HR' := Lib.hid h'; clear h'
  have HF := Lib.hid hf; clear hf
  have HF' := Lib.hid hf'; clear hf'
  generalize hn : m.length = n at *
  generalize hn' : m'.length = n' at *
  unfold maxLen at hl hl'
  have HN := Lib.hid hn; clear hn
  have HN' := Lib.hid hn'; clear hn'
  by_cases hlen : n = n'
  · subst hlen
    go_enter Try.func36, Try.ntmps36
    go_wp2_with fail
    go_loopw [5] (fun i wr => ∃ (k q : Nat), k ≤ n ∧ i = .int .i64 k ∧ wr = w.drewN q ∧ PreM m m' k) (fun i _ => n - (intOf i).toNat)
    case atStart => exact ⟨0, 0, Nat.zero_le _, rfl, rfl, rfl⟩
    case round =>
      obtain ⟨k, q, hk, rfl, rfl, hp⟩ := hrel
      have HP := Lib.hid hp; clear hp
      by_cases hlt : k < n
      · obtain ⟨b, off, hkl, rfl, hb, ra, rcap, hc, hrow⟩ := HR.out.get hlt
        obtain ⟨b', off', hkl', rfl, hb', ra', rcap', hc', hrow'⟩ := HR'.out.get hlt
        have HROW := Lib.hid hrow; clear hrow
        have HROW' := Lib.hid hrow'; clear hrow'
        by_cases he : m[k] = m'[k]
        · have hst := preM_step hkl hkl' HP.out he
          have HST := Lib.hid hst; clear hst
          have hcon : ∀ q, Calls Try.prog 37 #[.slice ra m[k].length rcap, .slice ra' m'[k].length rcap'] (w.drewN q) fun e w' => e = .returned (.bool true) ∧ ∃ q', w' = (w.drewN q).drewN q' := fun q =>
            (eqS_any B _ _ _ _ (w.drewN q) (HROW.out.drewN q) (HROW'.out.drewN q) (HF.out.2 k hkl) (HF'.out.2 k hkl')).mono fun e w' ⟨h1, h2⟩ => ⟨by rw [h1, eqL_yes he], h2⟩
          have HCON := Lib.hid hcon; clear hcon he
          generalize m[k].length = rn at *
          generalize m'[k].length = rn' at *
          go_wp2_with fail
          go_quiet ((go_at_call 37; exact quiet_more HCON.out _ _))
          go_wp2_with fail
          exact ⟨⟨k + 1, q + nq, by omega, by go_num, rfl, HST.out⟩, by simp [intOf]; omega⟩
        · have hne : ¬ m = m' := fun e => he (by subst e; rfl)
          have hv := eqM_no hne
          have HV := Lib.hid hv; clear hv hne
          have hcon : ∀ q, Calls Try.prog 37 #[.slice ra m[k].length rcap, .slice ra' m'[k].length rcap'] (w.drewN q) fun e w' => e = .returned (.bool false) ∧ ∃ q', w' = (w.drewN q).drewN q' := fun q =>
            (eqS_any B _ _ _ _ (w.drewN q) (HROW.out.drewN q) (HROW'.out.drewN q) (HF.out.2 k hkl) (HF'.out.2 k hkl')).mono fun e w' ⟨h1, h2⟩ => ⟨by rw [h1, eqL_no he], h2⟩
          have HCON := Lib.hid hcon; clear hcon he
          generalize m[k].length = rn at *
          generalize m'[k].length = rn' at *
          go_wp2_with fail
          go_quiet ((go_at_call 37; exact quiet_more HCON.out _ _))
          go_wp2_with fail
          go_ret
          exact ⟨ret_boolean HV.out.symm, q + nq, World.drewN_drewN _ _ _⟩
      · obtain rfl : k = n := by omega
        have heq : m = m' := by
          have h1 := HP.out
          unfold PreM at h1
          rw [List.take_of_length_le (by rw [HN.out]; exact Nat.le_refl _), List.take_of_length_le (by rw [HN'.out]; exact Nat.le_refl _)] at h1
          exact h1
        have hv := eqM_yes heq
        have HV := Lib.hid hv; clear hv heq
        go_wp2_with fail
        go_ret
        exact ⟨ret_boolean HV.out.symm, _, rfl⟩
  · have hne : ¬ m = m' := fun e => hlen (by rw [← HN.out, ← HN'.out, e])
    have hv := eqM_no hne
    have HV := Lib.hid hv; clear hv hne
    have hq : ((n : Int) != (n' : Int)) = true := by rw [bne_iff_ne]; omega
    clear hlen
    go_enter Try.func36, Try.ntmps36
    go_wp2_with fail
    all_goals go_ret
    all_goals exact ⟨ret_boolean HV.out.symm, 0, rfl⟩

/-! ### Copies -/
def intsV (l : List Int) : List Value := l.map (Value.int .i64)
theorem intsV_len (l : List Int) : (intsV l).length = l.length := by simp [intsV]
def cpSt (l : List Int) (k : Nat) : List Int := l.take k ++ List.replicate (l.length - k) 0
theorem cpSt_zero (l : List Int) : cpSt l 0 = List.replicate l.length 0 := by simp [cpSt]
theorem cpSt_end (l : List Int) : cpSt l l.length = l := by simp [cpSt]
theorem cpSt_len (l : List Int) (k : Nat) (h : k ≤ l.length) : (cpSt l k).length = l.length := by
  simp only [cpSt, List.length_append, List.length_take, List.length_replicate]; omega
theorem cpSt_step (l : List Int) (k : Nat) (h : k < l.length) : cpSt l (k + 1) = (cpSt l k).set k l[k] := by
  have hl := cpSt_len l k (by omega)
  apply List.ext_getElem?
  intro i
  rw [List.getElem?_set]
  by_cases hi : k = i
  · subst hi
    rw [if_pos rfl, if_pos (by omega)]
    unfold cpSt
    rw [List.getElem?_append_left (by rw [List.length_take]; omega), List.getElem?_take_of_lt (by omega), List.getElem?_eq_getElem h]
  · rw [if_neg hi]
    unfold cpSt
    rcases Nat.lt_or_ge i k with h1 | h1
    · rw [List.getElem?_append_left (by rw [List.length_take]; omega), List.getElem?_append_left (by rw [List.length_take]; omega), List.getElem?_take_of_lt (by omega), List.getElem?_take_of_lt h1]
    · rw [List.getElem?_append_right (by rw [List.length_take]; omega), List.getElem?_append_right (by rw [List.length_take]; omega)]
      simp only [List.length_take, List.getElem?_replicate]
      rw [Nat.min_eq_left (by omega), Nat.min_eq_left (by omega)]
      by_cases h2 : i < l.length
      · rw [if_pos (by omega), if_pos (by omega)]
      · rw [if_neg (by omega), if_neg (by omega)]
theorem cpSt_cells (l : List Int) (k : Nat) (h : k < l.length) : (intsV (cpSt l k)).set k (.int .i64 l[k]) = intsV (cpSt l (k + 1)) := by
  rw [cpSt_step l k h]; simp [intsV, List.map_set]
theorem cpSt_cell (l : List Int) (k : Nat) (h : k < l.length) : ∃ c : Value, (intsV (cpSt l k))[k]? = some c := by
  have hl := cpSt_len l k (by omega)
  exact ⟨_, List.getElem?_eq_getElem (by rw [intsV_len]; omega)⟩
theorem madeI64 (n : Nat) : (madeCells (Value.int .i64 0).cells n).toList = intsV (List.replicate n 0) := by
  apply List.ext_getElem
  · simp [madeCells, intsV]
  · intro i h1 h2
    simp [madeCells, intsV, Value.cells, Nat.mod_one]
theorem Try.infoInt : (Try.prog.info? 3).map (fun i => (i.zero, i.size, i.bytes)) = some (some (.int .i64 0), 1, 8) := by kernel_rfl

set_option maxHeartbeats 1000000 in
set_option maxRecDepth 100000 in
theorem toS_any (B : Nat) (v : Value) (l : List Int) (w : World) (h : RowB B w v l) (hB : B ≤ w.heap.size) (hl : l.length ≤ 1048576) :
    Calls Try.prog 35 #[v] w fun e w' => e = .returned (.slice (some ⟨w.heap.size, 0, none⟩) l.length l.length) ∧ w' = w.alloc (.cells (intsV l).toArray 3) := by
  obtain ⟨a, cap, rfl⟩ := h.slice
  have HR := Lib.hid h; clear h
  obtain ⟨i0, hi, hz0, hz1, hz2⟩ := info_parts Try.infoInt
  have hmk : (Instr.makeSlice 25 (.int .i64 l.length) (.int .i64 l.length)).run Try.prog w = .ok (.slice (some ⟨w.heap.size, 0, none⟩) l.length l.length) (w.alloc (.cells (intsV (cpSt l 0)).toArray 3)) := by
    have h := run_make (P := Try.prog) w 25 3 i0 (.int .i64 0) Try.underlying25 hi hz0 .i64 .i64 (l.length : Int) (l.length : Int) (by omega) (Int.le_refl _) (by rw [hz2]; omega) (by omega)
    rw [h, hz1, Nat.mul_one, cpSt_zero, ← madeI64, Int.toNat_natCast]
  clear hi hz0 hz1 hz2
  have hend := cpSt_end l
  have HEND := Lib.hid hend; clear hend
  generalize hn : l.length = n at *
  have HN := Lib.hid hn; clear hn
  go_enter Try.func35, Try.ntmps35
  go_wp2_with fail
  go_loopw [4] (fun i wr => ∃ k : Nat, k ≤ n ∧ i = .int .i64 k ∧ wr = w.alloc (.cells (intsV (cpSt l k)).toArray 3)) (fun i _ => n - (intOf i).toNat)
  case atStart => exact ⟨0, Nat.zero_le _, rfl, rfl⟩
  case round =>
    obtain ⟨k, hk, rfl, rfl⟩ := hrel
    by_cases hlt : k < n
    · obtain ⟨b, off, hkl, rfl, hb, hc⟩ := HR.out.get hlt
      have hbw : b < w.heap.size := by omega
      have hc2 : (w.alloc (.cells (intsV (cpSt l k)).toArray 3)).cell? ⟨b, off + k, none⟩ = some (.int .i64 l[k]) := by
        rw [World.cell?_alloc_past _ _ _ (by simpa using hbw)]; exact hc
      clear hc
      obtain ⟨c, hcc⟩ := cpSt_cell l k hkl
      have hset := cpSt_cells l k hkl
      generalize l[k] = x at *
      have HS := Lib.hid hset; clear hset
      go_wp2_with fail
      rw [HS.out]
      exact ⟨⟨k + 1, by omega, by go_num, rfl⟩, by simp [intOf]; omega⟩
    · obtain rfl : k = n := by omega
      go_wp2_with fail
      go_ret
      rw [HEND.out]
      exact ⟨rfl, rfl⟩

theorem blk_set {w : World} {C : Nat} {cs : Array Value} {t : TypeId} (hC : w.heap[C]? = some (.cells cs t (0, 0))) (j : Nat) (v : Value) : (w.setCell ⟨C, j, none⟩ v).heap[C]? = some (.cells (cs.setIfInBounds j v) t (0, 0)) := by
  unfold World.setCell
  simp only [Array.getElem?_modify, if_pos, hC, Option.map_some, Option.isSome_none, Bool.false_eq_true, if_false]
theorem blk_other {w : World} {C k : Nat} (j : Nat) (v : Value) (hne : k ≠ C) : (w.setCell ⟨C, j, none⟩ v).heap[k]? = w.heap[k]? := by
  unfold World.setCell
  simp [Array.getElem?_modify, hne.symm]

/-- The headers of the rows, as the copy lays them: row j in block O + 1 + j. -/
def hdr (O : Nat) (m : List (List Int)) (j : Nat) : Value := .slice (some ⟨O + 1 + j, 0, none⟩) (m.getD j []).length (m.getD j []).length
def hdrSt (O : Nat) (m : List (List Int)) (k : Nat) : List Value := (List.range m.length).map fun j => if j < k then hdr O m j else .slice none 0 0
theorem hdrSt_len (O : Nat) (m : List (List Int)) (k : Nat) : (hdrSt O m k).length = m.length := by simp [hdrSt]
theorem hdrSt_step (O : Nat) (m : List (List Int)) (k : Nat) (_h : k < m.length) : (hdrSt O m k).set k (hdr O m k) = hdrSt O m (k + 1) := by
  apply List.ext_getElem
  · simp [hdrSt]
  · intro i h1 h2
    have hi : i < m.length := by simpa [hdrSt] using h2
    rw [List.getElem_set]
    by_cases e : k = i
    · subst e; simp [hdrSt]
    · rw [if_neg e]
      simp only [hdrSt, List.getElem_map, List.getElem_range]
      by_cases h3 : i < k
      · rw [if_pos h3, if_pos (by omega)]
      · rw [if_neg h3, if_neg (by omega)]
theorem hdrSt_zero (O : Nat) (m : List (List Int)) : hdrSt O m 0 = List.replicate m.length (.slice none 0 0) := by
  apply List.ext_getElem
  · simp [hdrSt]
  · intro i h1 h2; simp [hdrSt]
theorem hdrSt_get (O : Nat) (m : List (List Int)) (k j : Nat) (hj : j < m.length) (hk : j < k) : (hdrSt O m k)[j]? = some (hdr O m j) := by
  simp [hdrSt, hj, hk]
theorem hdrSt_old (O : Nat) (m : List (List Int)) (k : Nat) (hk : k < m.length) : (hdrSt O m k)[k]? = some (.slice none 0 0) := by
  simp [hdrSt, hk]

/-- A matrix as the copy lays it: the headers in block O, row j in block O + 1 + j; the first k rows are there. -/
def CopySt (O : Nat) (m : List (List Int)) (k : Nat) (w : World) : Prop :=
  w.heap[O]? = some (.cells (hdrSt O m k).toArray 25 (0, 0)) ∧ w.heap.size = O + 1 + k ∧ ∀ j (h : j < m.length), j < k → w.heap[O + 1 + j]? = some (.cells (intsV m[j]).toArray 3 (0, 0))
theorem row_cells {w : World} {b : Nat} {l : List Int} {t : TypeId} (h : w.heap[b]? = some (.cells (intsV l).toArray t (0, 0))) (B : Nat) (hB : b < B) (cap : Nat) : RowB B w (.slice (some ⟨b, 0, none⟩) l.length cap) l := by
  refine Or.inr ⟨b, 0, cap, rfl, hB, fun j hj => ?_⟩
  rw [cell_of_row w b (0 + j) _ _ _ h]
  simp [intsV, hj]
theorem CopySt.mat {O : Nat} {m : List (List Int)} {w : World} (h : CopySt O m m.length w) (cap : Nat) : MatB (O + 1 + m.length) w (.slice (some ⟨O, 0, none⟩) m.length cap) m := by
  obtain ⟨h1, h2, h3⟩ := h
  refine Or.inr ⟨O, 0, cap, rfl, by omega, fun j hj => ⟨hdr O m j, ?_, ?_⟩⟩
  · rw [cell_of_row w O (0 + j) _ _ _ h1]
    have := hdrSt_get O m m.length j hj hj
    simpa using this
  · have hg : m.getD j [] = m[j] := by simp [List.getD, hj]
    unfold hdr
    rw [hg]
    exact row_cells (h3 j hj hj) _ (by omega) _
theorem copy_step {O : Nat} {m : List (List Int)} {k : Nat} {w : World} (h : CopySt O m k w) (hk : k < m.length) :
    CopySt O m (k + 1) ((w.alloc (.cells (intsV m[k]).toArray 3)).setCell ⟨O, k, none⟩ (hdr O m k)) := by
  obtain ⟨h1, h2, h3⟩ := h
  have hO : (w.alloc (.cells (intsV m[k]).toArray 3)).heap[O]? = some (.cells (hdrSt O m k).toArray 25 (0, 0)) := by
    rw [(MapKept.heap_alloc w _).2 O (by omega)]; exact h1
  refine ⟨?_, ?_, ?_⟩
  · rw [blk_set hO k, ← hdrSt_step O m k hk]
    congr 2
    simp
  · rw [World.size_setCell, World.size_alloc]; omega
  · intro j hj hjk
    have hne : O + 1 + j ≠ O := by omega
    rw [blk_other _ _ hne]
    rcases Nat.lt_or_ge j k with h' | h'
    · rw [(MapKept.heap_alloc w _).2 (O + 1 + j) (by omega)]; exact h3 j hj h'
    · have : j = k := by omega
      subst this
      rw [show O + 1 + j = w.heap.size by omega]
      exact (MapKept.heap_alloc w _).1

def Small (m : List (List Int)) : Prop := m.length ≤ 1048576 ∧ ∀ j (h : j < m.length), m[j].length ≤ 1048576
theorem Try.infoRow : (Try.prog.info? 25).map (fun i => (i.zero, i.size, i.bytes)) = some (some (.slice none 0 0), 1, 24) := by kernel_rfl
theorem madeRows (n : Nat) : (madeCells (Value.slice none 0 0).cells n).toList = List.replicate n (.slice none 0 0) := by
  apply List.ext_getElem
  · simp [madeCells]
  · intro i h1 h2
    simp [madeCells, Value.cells, Nat.mod_one]
theorem hdr_eq (O : Nat) (m : List (List Int)) (k : Nat) (h : k < m.length) : hdr O m k = .slice (some ⟨O + 1 + k, 0, none⟩) m[k].length m[k].length := by
  unfold hdr
  have hg : m.getD k [] = m[k] := by simp [List.getD, h]
  rw [hg]

set_option maxHeartbeats 1000000 in
set_option maxRecDepth 100000 in
theorem toSS_any (B : Nat) (v : Value) (m : List (List Int)) (w : World) (h : MatB B w v m) (hB : B ≤ w.heap.size) (hs : Small m) :
    Calls Try.prog 34 #[v] w fun e w' => e = .returned (.slice (some ⟨w.heap.size, 0, none⟩) m.length m.length) ∧ CopySt w.heap.size m m.length w' ∧ Below w.heap.size w w' := by
  obtain ⟨a, cap, rfl⟩ := h.slice
  have HR := Lib.hid h; clear h
  have hl := hs.1
  have HSM := Lib.hid hs; clear hs
  obtain ⟨i0, hi, hz0, hz1, hz2⟩ := info_parts Try.infoRow
  have hmk : (Instr.makeSlice 24 (.int .i64 m.length) (.int .i64 m.length)).run Try.prog w = .ok (.slice (some ⟨w.heap.size, 0, none⟩) m.length m.length) (w.alloc (.cells (hdrSt w.heap.size m 0).toArray 25)) := by
    have h := run_make (P := Try.prog) w 24 25 i0 (.slice none 0 0) Try.underlying24 hi hz0 .i64 .i64 (m.length : Int) (m.length : Int) (by omega) (Int.le_refl _) (by rw [hz2]; omega) (by omega)
    rw [h, hz1, Nat.mul_one, hdrSt_zero, ← madeRows, Int.toNat_natCast]
  clear hi hz0 hz1 hz2
  generalize hn : m.length = n at *
  have HN := Lib.hid hn; clear hn
  go_enter Try.func34, Try.ntmps34
  go_wp2_with fail
  go_loopw [4] (fun i wr => ∃ k : Nat, k ≤ n ∧ i = .int .i64 k ∧ CopySt w.heap.size m k wr ∧ Below w.heap.size w wr) (fun i _ => n - (intOf i).toNat)
  case atStart => exact ⟨0, Nat.zero_le _, rfl, ⟨(MapKept.heap_alloc w _).1, by simp, fun j _ hj => by omega⟩, (Below.refl _ _).alloc (Nat.le_refl _) _⟩
  case round =>
    obtain ⟨k, hk, rfl, hcp, hb⟩ := hrel
    have HC := Lib.hid hcp; clear hcp
    have HB := Lib.hid hb; clear hb
    by_cases hlt : k < n
    · rename_i wr
      have hm2 : MatB w.heap.size wr (.slice a n cap) m := (HR.out.below HB.out hB).mono hB
      obtain ⟨b, off, hkl, rfl, hbb, ra, rcap, hcell, hrow⟩ := hm2.get hlt
      clear hm2
      have hsz := HC.out.2.1
      have HSZ := Lib.hid hsz
      have hrl := HSM.out.2 k hkl
      have HROW := Lib.hid hrow; clear hrow
      have hst := copy_step HC.out hkl
      have hhd := hdr_eq w.heap.size m k hkl
      rw [hhd] at hst
      have HST := Lib.hid hst; clear hst hhd
      have hbs : Below w.heap.size w ((wr.alloc (.cells (intsV m[k]).toArray 3)).setCell ⟨w.heap.size, k, none⟩ (.slice (some ⟨w.heap.size + 1 + k, 0, none⟩) m[k].length m[k].length)) :=
        (HB.out.alloc (by omega) _).setCell (Nat.le_refl _) _
      have HBS := Lib.hid hbs; clear hbs
      have hcon : Calls Try.prog 35 #[.slice ra m[k].length rcap] wr fun e w' => e = .returned (.slice (some ⟨w.heap.size + 1 + k, 0, none⟩) m[k].length m[k].length) ∧ w' = wr.alloc (.cells (intsV m[k]).toArray 3) := by
        have := toS_any w.heap.size _ _ wr HROW.out (by omega) hrl
        rw [hsz] at this
        exact this
      have HCON := Lib.hid hcon; clear hcon
      obtain ⟨hO, _, _⟩ := HC.out
      have hO2 : (wr.alloc (.cells (intsV m[k]).toArray 3)).heap[w.heap.size]? = some (.cells (hdrSt w.heap.size m k).toArray 25 (0, 0)) := by
        rw [(MapKept.heap_alloc wr _).2 _ (by omega)]; exact hO
      have hold : (wr.alloc (.cells (intsV m[k]).toArray 3)).cell? ⟨w.heap.size, k, none⟩ = some (.slice none 0 0) := by
        rw [cell_of_row _ _ k _ _ _ hO2]
        have := hdrSt_old w.heap.size m k hkl
        simpa using this
      have hfz : (wr.alloc (.cells (intsV m[k]).toArray 3)).frozen? ⟨w.heap.size, k, none⟩ = false := frozen_of_row _ _ k _ _ hO2
      clear hO hO2 hsz
      generalize m[k] = row at *
      generalize hrn : row.length = rn at *
      have HRN := Lib.hid hrn; clear hrn
      generalize hw1 : wr.alloc (.cells (intsV row).toArray 3) = w1 at *
      have HW1 := Lib.hid hw1; clear hw1
      go_wp2_with fail
      refine HCON.out.mono ?_
      rintro e w2 ⟨rfl, rfl⟩
      go_wp2_with fail
      exact ⟨⟨k + 1, by omega, by go_num, HST.out, HBS.out⟩, by simp [intOf]; omega⟩
    · obtain rfl : k = n := by omega
      go_wp2_with fail
      go_ret
      exact ⟨rfl, HC.out, HB.out⟩
end Go.Proofs.Ytbmghddmilgngaa
