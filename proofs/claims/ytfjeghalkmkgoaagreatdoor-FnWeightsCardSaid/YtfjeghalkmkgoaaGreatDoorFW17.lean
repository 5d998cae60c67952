/-
  Weights: what the functions of chapter 6 answer (no walk here).
  Weights: which vectors are weights (no walk here).
  FormatInt of the model and of the program: what each call returns.
  FormatInt of the program: what the call returns.
  FormatCartan of the model: what the call returns.
  A cell of a row that reads as a list.
-/
import Derived.IntWalk
import Derived.Test.YtfjeghalkmkgoaaGreatDoorFW16
import Derived.Lib.ItoaNum
import Derived.Test.YtfjeghalkmkgoaaGreatDoorFW01
import Derived.Test.YtfjeghalkmkgoaaGreatDoorFW02
import Derived.Test.YtfjeghalkmkgoaaGreatDoorShelfD
import Derived.Test.YtfjeghalkmkgoaaGreatDoorShelfJ
import Derived.Lib.Join
import Derived.Test.YtfjeghalkmkgoaaGreatDoorFW05
import Derived.Test.YtfjeghalkmkgoaaGreatDoorFW06
import Derived.Test.YtfjeghalkmkgoaaGreatDoorFW03
namespace Go.Proofs.YtfjeghalkmkgoaaGreatDoor
open Go.RowKit

def mulW (x y : Int) : Int := wrap64 (x * y)
def subW (x y : Int) : Int := wrap64 (x - y)
def addW (x y : Int) : Int := wrap64 (x + y)
theorem wrapk (x : Int) : IntKind.i64.wrap x = wrap64 x := by rw [IntKind.wrap_i64, wrap64]
/-! ### A reflection of a weight -/
def reflE (m : List (List Int)) (i : Nat) (l : List Int) (k : Nat) : Int := subW (l.getD k 0) (mulW (l.getD i 0) (entry m k i))
def reflK (m : List (List Int)) (i : Nat) (l : List Int) (k : Nat) : List Int := (List.range k).map (reflE m i l)
def reflL (m : List (List Int)) (i : Nat) (l : List Int) : List Int := reflK m i l l.length
theorem reflK_len (m : List (List Int)) (i : Nat) (l : List Int) (k : Nat) : (reflK m i l k).length = k := by simp [reflK]
theorem reflL_len (m : List (List Int)) (i : Nat) (l : List Int) : (reflL m i l).length = l.length := reflK_len _ _ _ _
theorem reflK_step (m : List (List Int)) (i : Nat) (l : List Int) (k : Nat) : reflK m i l k ++ [reflE m i l k] = reflK m i l (k + 1) := by simp [reflK, List.range_succ]
def RefOk (m : List (List Int)) (i : Int) (l : List Int) : Prop := IsC m ∧ l.length = m.length ∧ (0 ≤ i ∧ i ≤ (m.length : Int) - 1)
open Classical in
noncomputable def refwL (m : List (List Int)) (i : Int) (l : List Int) : List Int := if RefOk m i l then reflL m i.toNat l else l
theorem refwL_yes {m : List (List Int)} {i : Int} {l : List Int} (h : RefOk m i l) : refwL m i l = reflL m i.toNat l := if_pos h
theorem refwL_no {m : List (List Int)} {i : Int} {l : List Int} (h : ¬ RefOk m i l) : refwL m i l = l := if_neg h
theorem refwL_len (m : List (List Int)) (i : Int) (l : List Int) : (refwL m i l).length = l.length := by
  by_cases h : RefOk m i l
  · rw [refwL_yes h, reflL_len]
  · rw [refwL_no h]
/-! ### A word that acts -/
def actW (m : List (List Int)) (ws : List Int) (l : List Int) : List Int := ws.foldr (fun i l => reflL m i.toNat l) l
theorem actW_len (m : List (List Int)) (ws l : List Int) : (actW m ws l).length = l.length := by
  induction ws with
  | nil => rfl
  | cons i ws ih => simp only [actW, List.foldr_cons] at ih ⊢; rw [reflL_len]; exact ih
theorem actW_step {m : List (List Int)} {ws l : List Int} {k : Nat} (h : k < ws.length) : reflL m (ws.getD k 0).toNat (actW m (ws.drop (k + 1)) l) = actW m (ws.drop k) l := by
  conv => rhs; rw [List.drop_eq_getElem_cons h]
  have e : ws.getD k 0 = ws[k] := by simp [List.getD, h]
  unfold actW
  rw [List.foldr_cons, e]
def ActOk (m : List (List Int)) (ws l : List Int) : Prop := IsW m ws ∧ l.length = m.length
open Classical in
noncomputable def actL (m : List (List Int)) (ws l : List Int) : List Int := if ActOk m ws l then actW m ws l else l
theorem actL_yes {m : List (List Int)} {ws l : List Int} (h : ActOk m ws l) : actL m ws l = actW m ws l := if_pos h
theorem actL_no {m : List (List Int)} {ws l : List Int} (h : ¬ ActOk m ws l) : actL m ws l = l := if_neg h
theorem actL_len (m : List (List Int)) (ws l : List Int) : (actL m ws l).length = l.length := by
  by_cases h : ActOk m ws l
  · rw [actL_yes h, actW_len]
  · rw [actL_no h]
/-! ### Ones, sums, columns -/
def onesR (n : Nat) : List Int := List.replicate n 1
theorem onesR_step (n : Nat) : onesR n ++ [1] = onesR (n + 1) := by simp [onesR, List.replicate_succ']
open Classical in
noncomputable def rhoL (m : List (List Int)) : List Int := if IsC m then onesR m.length else []
theorem rhoL_yes {m : List (List Int)} (h : IsC m) : rhoL m = onesR m.length := if_pos h
theorem rhoL_no {m : List (List Int)} (h : ¬ IsC m) : rhoL m = [] := if_neg h
theorem rhoL_len (m : List (List Int)) : (rhoL m).length ≤ 4 := by
  by_cases h : IsC m
  · rw [rhoL_yes h]; simp [onesR]; exact h.2.2.2
  · rw [rhoL_no h]; simp
def addK (a b : List Int) (k : Nat) : List Int := (List.range k).map fun j => addW (a.getD j 0) (b.getD j 0)
theorem addK_step (a b : List Int) (k : Nat) : addK a b k ++ [addW (a.getD k 0) (b.getD k 0)] = addK a b (k + 1) := by simp [addK, List.range_succ]
theorem addK_len (a b : List Int) (k : Nat) : (addK a b k).length = k := by simp [addK]
def addL (a b : List Int) : List Int := addK a b (min a.length b.length)
theorem addL_len (a b : List Int) : (addL a b).length ≤ a.length := by unfold addL; rw [addK_len]; exact Nat.min_le_left _ _
def colK (m : List (List Int)) (i k : Nat) : List Int := (List.range k).map fun j => entry m j i
theorem colK_step (m : List (List Int)) (i k : Nat) : colK m i k ++ [entry m k i] = colK m i (k + 1) := by simp [colK, List.range_succ]
theorem colK_len (m : List (List Int)) (i k : Nat) : (colK m i k).length = k := by simp [colK]
def PtOk (m : List (List Int)) (i : Int) : Prop := IsC m ∧ (0 ≤ i ∧ i ≤ (m.length : Int) - 1)
open Classical in
noncomputable def srwL (m : List (List Int)) (i : Int) : List Int := if PtOk m i then colK m i.toNat m.length else []
theorem srwL_yes {m : List (List Int)} {i : Int} (h : PtOk m i) : srwL m i = colK m i.toNat m.length := if_pos h
theorem srwL_no {m : List (List Int)} {i : Int} (h : ¬ PtOk m i) : srwL m i = [] := if_neg h
theorem srwL_len (m : List (List Int)) (i : Int) : (srwL m i).length ≤ 4 := by
  by_cases h : PtOk m i
  · rw [srwL_yes h, colK_len]; exact h.1.2.2.2
  · rw [srwL_no h]; simp
end Go.Proofs.YtfjeghalkmkgoaaGreatDoor
namespace Go.Proofs.YtfjeghalkmkgoaaGreatDoor
open Go.RowKit

def WtTo (l : List Int) (k : Nat) : Prop := ∀ j, j < k → -1000 ≤ l.getD j 0 ∧ l.getD j 0 ≤ 1000
theorem wtTo_zero (l : List Int) : WtTo l 0 := fun _ hj => absurd hj (Nat.not_lt_zero _)
theorem wtTo_step {k : Nat} {l : List Int} (h : WtTo l k) (hk : -1000 ≤ l.getD k 0 ∧ l.getD k 0 ≤ 1000) : WtTo l (k + 1) := fun j hj => by
  rcases Nat.lt_or_ge j k with h' | h'
  · exact h j h'
  · obtain rfl : j = k := by omega
    exact hk
def IsWt (c : List (List Int)) (l : List Int) : Prop := WtTo l l.length ∧ IsC c ∧ l.length = c.length
open Classical in
noncomputable def wtB (c : List (List Int)) (l : List Int) : Bool := decide (IsWt c l)
open Classical in
theorem wtB_yes {c : List (List Int)} {l : List Int} (h : IsWt c l) : wtB c l = true := decide_eq_true h
open Classical in
theorem wtB_no {c : List (List Int)} {l : List Int} (h : ¬ IsWt c l) : wtB c l = false := decide_eq_false h
theorem isWt_bad {c : List (List Int)} {l : List Int} {k : Nat} (hk : k < l.length) (h : ¬ (-1000 ≤ l.getD k 0 ∧ l.getD k 0 ≤ 1000)) : ¬ IsWt c l := fun h' => h (h'.1 k hk)
open Classical in
noncomputable def wtlB (l : List Int) : Bool := decide (WtTo l l.length)
open Classical in
theorem wtlB_yes {l : List Int} (h : WtTo l l.length) : wtlB l = true := decide_eq_true h
open Classical in
theorem wtlB_no {l : List Int} (h : ¬ WtTo l l.length) : wtlB l = false := decide_eq_false h
theorem wtB_is (m : List (List Int)) (l : List Int) : wtB m l = (isB m && decide (l.length = m.length) && wtlB l) := by
  by_cases hI : IsC m
  · by_cases h15 : l.length = m.length
    · by_cases hl : WtTo l l.length
      · rw [wtB_yes ⟨hl, hI, h15⟩, isB_yes hI, decide_eq_true h15, wtlB_yes hl]; rfl
      · rw [wtB_no (fun h => hl h.1), wtlB_no hl, Bool.and_false]
    · rw [wtB_no (fun h => h15 h.2.2), decide_eq_false h15, Bool.and_false, Bool.false_and]
  · rw [wtB_no (fun h => hI h.2.1), isB_no hI, Bool.false_and, Bool.false_and]
/-! ### A reflection in place: the first k numbers are new -/
def rflS (m : List (List Int)) (i : Nat) (l : List Int) (k : Nat) : List Int := reflK m i l k ++ l.drop k
theorem rflS_zero (m : List (List Int)) (i : Nat) (l : List Int) : rflS m i l 0 = l := by simp [rflS, reflK]
theorem rflS_len (m : List (List Int)) (i : Nat) (l : List Int) (k : Nat) (h : k ≤ l.length) : (rflS m i l k).length = l.length := by simp [rflS, reflK_len]; omega
theorem rflS_end (m : List (List Int)) (i : Nat) (l : List Int) : rflS m i l l.length = reflL m i l := by simp [rflS, reflL]
theorem rflS_get (m : List (List Int)) (i : Nat) (l : List Int) (k : Nat) (h : k < l.length) : (rflS m i l k)[k]? = some (l.getD k 0) := by
  unfold rflS
  rw [List.getElem?_append_right (by rw [reflK_len]; exact Nat.le_refl _), reflK_len, Nat.sub_self, List.getElem?_drop]
  simp [List.getD, h]
theorem rflS_step (m : List (List Int)) (i : Nat) (l : List Int) (k : Nat) (h : k < l.length) : (rflS m i l k).set k (reflE m i l k) = rflS m i l (k + 1) := by
  unfold rflS
  rw [List.set_append_right _ _ (by rw [reflK_len]; exact Nat.le_refl _), reflK_len, Nat.sub_self, List.drop_eq_getElem_cons h, List.set_cons_zero, ← reflK_step, List.append_assoc]
  rfl
end Go.Proofs.YtfjeghalkmkgoaaGreatDoor
namespace Go.Proofs.YtfjeghalkmkgoaaGreatDoor
open Go.RowKit

theorem dec_small {u : Nat} (h : u < 10) : Lib.decDigits u = [UInt8.ofNat (48 + u)] := by rw [Lib.decDigits, dif_pos h]
theorem dec_big {u : Nat} (h : ¬ u < 10) : Lib.decDigits u = Lib.decDigits (u / 10) ++ [UInt8.ofNat (48 + u % 10)] := by rw [Lib.decDigits, dif_neg h]

/-- What the loop keeps: q is still to be written, out is written. -/
def DRel (n q : Nat) (s : ByteArray) : Prop := (0 < q ∧ Lib.decDigits q ++ s.data.toList = Lib.decDigits n) ∨ (q = 0 ∧ s.data.toList = Lib.decDigits n)
theorem drel_step {n q : Nat} {s : ByteArray} (hq : 0 < q) (h : DRel n q s) : DRel n (q / 10) (⟨#[UInt8.ofNat (48 + q % 10)]⟩ ++ s) := by
  rcases h with ⟨_, h⟩ | ⟨h, _⟩
  · have e : ((⟨#[UInt8.ofNat (48 + q % 10)]⟩ : ByteArray) ++ s).data.toList = UInt8.ofNat (48 + q % 10) :: s.data.toList := by rw [str_app]; rfl
    by_cases hs : q < 10
    · refine Or.inr ⟨by omega, ?_⟩
      rw [dec_small hs] at h
      rw [e, ← h, Nat.mod_eq_of_lt hs]; rfl
    · refine Or.inl ⟨by omega, ?_⟩
      rw [dec_big hs] at h
      rw [e, ← h]; simp
  · omega

theorem drel_end {n : Nat} {s : ByteArray} (h : DRel n 0 s) : s.data.toList = Lib.decDigits n := by
  rcases h with ⟨h, _⟩ | ⟨_, h⟩
  · omega
  · exact h

set_option maxHeartbeats 400000 in
set_option maxRecDepth 100000 in
theorem fmts_pos (n : Nat) (w : World) (h0 : 0 < n) (h1 : n ≤ 9223372036854775807) :
    Calls Tryz.prog 51 #[.int .i64 n] w fun e w' => e = .returned (.string ⟨(Lib.decDigits n).toArray⟩) ∧ Below w.heap.size w w' := by
  have hz : ((n : Int) == 0) = false := by rw [beq_eq_false_iff_ne]; omega
  have hneg : decide ((n : Int) < 0) = false := by simp
  go_enter Tryz.func51, Tryz.ntmps51
  go_wp2_with fail
  go_loopw [0, 3, 5] (fun a o _ wr => ∃ (q : Nat) (s : ByteArray), a = .int .i64 q ∧ o = .string s ∧ q ≤ n ∧ s.size + q ≤ n ∧ DRel n q s ∧ Below w.heap.size w wr ∧ w.heap.size ≤ wr.heap.size) (fun a _ _ _ => (intOf a).toNat)
  case atStart => exact ⟨n, ⟨#[]⟩, rfl, rfl, Nat.le_refl _, Nat.le_of_eq (Nat.zero_add _), Or.inl ⟨h0, by simp⟩, Below.refl _ _, Nat.le_refl _⟩
  case round =>
    obtain ⟨q, s, rfl, rfl, hq, hs, hr, hb, hz2⟩ := hrel
    have HR := Lib.hid hr; clear hr
    have HB := Lib.hid hb; clear hb
    by_cases hq0 : 0 < q
    · have hne : ((q : Int) != 0) = true := by rw [bne_iff_ne]; omega
      rename_i wr
      obtain ⟨b, hbq, hbu⟩ : ∃ b : UInt8, b = UInt8.ofNat (48 + q % 10) ∧ (b.toNat : Int) = 48 + (q : Int) % 10 := ⟨_, rfl, by rw [u8_nat _ (by omega)]; omega⟩
      have HBQ := Lib.hid hbq; clear hbq
      have hcv := conv_byte wr b hbu
      clear hbu
      have hst := drel_step hq0 HR.out
      rw [← HBQ.out] at hst
      have HST := Lib.hid hst; clear hst
      go_wp2_with fail
      refine ⟨⟨q / 10, _, by go_num, rfl, by omega, ?_, HST.out, HB.out.alloc hz2 _, by simp; omega⟩, by simp [intOf]; omega⟩
      rw [str_app_size]; omega
    · obtain rfl : q = 0 := by omega
      go_wp2_with fail
      go_ret
      exact ⟨ret_string (str_of (drel_end HR.out)), HB.out⟩

theorem itoa_pos (n : Nat) : Lib.itoa (n : Int) = Lib.decDigits n := by unfold Lib.itoa; rw [if_neg (by omega), Int.toNat_natCast]
theorem itoa_neg (n : Nat) (h : 0 < n) : Lib.itoa (-(n : Int)) = 45 :: Lib.decDigits n := by
  unfold Lib.itoa; rw [if_pos (by omega), Int.natAbs_neg, Int.natAbs_natCast]

theorem neg_tmod (q : Nat) : (-(q : Int)).tmod 10 = -((q : Int) % 10) := by
  rw [Int.neg_tmod, Int.tmod_eq_emod_of_nonneg (by omega)]
theorem neg_tdiv (q : Nat) : (-(q : Int)).tdiv 10 = -((q : Int) / 10) := by
  rw [Int.neg_tdiv, Int.tdiv_eq_ediv_of_nonneg (by omega)]

set_option maxHeartbeats 400000 in
set_option maxRecDepth 100000 in
theorem fmts_neg (n : Nat) (w : World) (h0 : 0 < n) (h1 : n ≤ 9223372036854775808) :
    Calls Tryz.prog 51 #[.int .i64 (-(n : Int))] w fun e w' => e = .returned (.string ⟨(45 :: Lib.decDigits n).toArray⟩) ∧ Below w.heap.size w w' := by
  have hz : (-(n : Int) == 0) = false := by rw [beq_eq_false_iff_ne]; omega
  have hneg : decide (-(n : Int) < 0) = true := by rw [decide_eq_true_eq]; omega
  go_enter Tryz.func51, Tryz.ntmps51
  go_wp2_with fail
  go_loopw [0, 3, 5] (fun a o _ wr => ∃ (q : Nat) (s : ByteArray), a = .int .i64 (-(q : Int)) ∧ o = .string s ∧ q ≤ n ∧ (s.size = 0 ∨ s.size + q ≤ n / 10 + 1) ∧ DRel n q s ∧ Below w.heap.size w wr ∧ w.heap.size ≤ wr.heap.size) (fun a _ _ _ => (-(intOf a)).toNat)
  case atStart => exact ⟨n, ⟨#[]⟩, rfl, rfl, Nat.le_refl _, Or.inl rfl, Or.inl ⟨h0, by simp⟩, Below.refl _ _, Nat.le_refl _⟩
  case round =>
    obtain ⟨q, s, rfl, rfl, hq, hs, hr, hb, hz2⟩ := hrel
    have HR := Lib.hid hr; clear hr
    have HB := Lib.hid hb; clear hb
    have ht := neg_tmod q
    have hd := neg_tdiv q
    by_cases hq0 : 0 < q
    · have hne : (-(q : Int) != 0) = true := by rw [bne_iff_ne]; omega
      rename_i wr
      have hs1 : s.size ≤ n / 10 + 1 := by omega
      have HS := Lib.hid hs; clear hs
      obtain ⟨b, hbq, hbu⟩ : ∃ b : UInt8, b = UInt8.ofNat (48 + q % 10) ∧ (b.toNat : Int) = 48 + (q : Int) % 10 := ⟨_, rfl, by rw [u8_nat _ (by omega)]; omega⟩
      have HBQ := Lib.hid hbq; clear hbq
      have hst := drel_step hq0 HR.out
      rw [← HBQ.out] at hst
      have HST := Lib.hid hst; clear hst
      by_cases hm : (q : Int) % 10 = 0
      · have hcv := conv_byte wr b (u := 48 + -((q : Int) % 10)) (by omega)
        have hm1 : (q : Int) % 10 ≤ 0 := by omega
        clear hm hbu
        go_wp2_with fail
        refine ⟨⟨q / 10, _, by go_num, rfl, by omega, Or.inr ?_, HST.out, HB.out.alloc hz2 _, by simp; omega⟩, by simp [intOf]; omega⟩
        have := HS.out
        rw [str_app_size]; omega
      · have hcv := conv_byte wr b hbu
        have hm1 : 0 < (q : Int) % 10 := by omega
        clear hm hbu
        go_wp2_with fail
        refine ⟨⟨q / 10, _, by go_num, rfl, by omega, Or.inr ?_, HST.out, HB.out.alloc hz2 _, by simp; omega⟩, by simp [intOf]; omega⟩
        have := HS.out
        rw [str_app_size]; omega
    · obtain rfl : q = 0 := by omega
      have hs1 : s.size ≤ n / 10 + 1 := by omega
      clear hs
      go_wp2_with fail
      go_ret
      refine ⟨ret_string (str_of ?_), HB.out⟩
      rw [str_app, drel_end HR.out]; rfl

set_option maxHeartbeats 400000 in
theorem fmts_zero (w : World) :
    Calls Tryz.prog 51 #[.int .i64 0] w fun e w' => e = .returned (.string ⟨(Lib.itoa 0).toArray⟩) ∧ Below w.heap.size w w' := by
  have hi : Lib.itoa 0 = [48] := by
    have := itoa_pos 0
    rw [dec_small (by omega)] at this
    exact this
  have HI := Lib.hid hi; clear hi
  go_enter Tryz.func51, Tryz.ntmps51
  go_wp2
  go_ret
  rw [HI.out]
  exact ⟨rfl, Below.refl _ _⟩

theorem fmts_any (n : Int) (w : World) (h0 : -9223372036854775808 ≤ n) (h1 : n ≤ 9223372036854775807) :
    Calls Tryz.prog 51 #[.int .i64 n] w fun e w' => e = .returned (.string ⟨(Lib.itoa n).toArray⟩) ∧ Below w.heap.size w w' := by
  rcases Int.lt_trichotomy n 0 with h | h | h
  · obtain ⟨m, rfl⟩ : ∃ m : Nat, n = -(m : Int) := ⟨n.natAbs, by omega⟩
    rw [itoa_neg m (by omega)]
    exact fmts_neg m w (by omega) (by omega)
  · subst h
    exact fmts_zero w
  · obtain ⟨m, rfl⟩ := Int.eq_ofNat_of_zero_le (show 0 ≤ n by omega)
    rw [itoa_pos m]
    exact fmts_pos m w (by omega) (by omega)
end Go.Proofs.YtfjeghalkmkgoaaGreatDoor
namespace Go.Proofs.YtfjeghalkmkgoaaGreatDoor
open Go.RowKit

theorem below_grow {w : World} (k : Nat) (os : Array Obj) : Below w.heap.size w (Sort.grow (w.drewN k) os) := by
  refine ⟨rfl, rfl, rfl, ?_, ?_⟩
  · show w.heap.size ≤ (w.heap ++ os).size
    simp
  · intro i hi
    show (w.heap ++ os)[i]? = w.heap[i]?
    rw [Array.getElem?_append_left hi]

set_option maxHeartbeats 400000 in
theorem fmti_any (n : Int) (w : World) (h0 : -9223372036854775808 ≤ n) (h1 : n ≤ 9223372036854775807)
    (htab : Lib.TabIs Tryz.prog w "internal/strconv.uint64pow10" .u64 Lib.pow10Tab) :
    Calls Tryz.prog 63 #[.int .i64 n] w fun e w' => e = .returned (.string ⟨(Lib.itoa n).toArray⟩) ∧ Below w.heap.size w w' := by
  have HT := Lib.hid htab; clear htab
  go_enter Tryz.func63, Tryz.ntmps63
  go_wp2_with (go_at_call 75; go_must (refine (Tryz.strconv_Itoa n h0 h1 _ HT.out).mono ?_; rintro e w' ⟨rfl, k, os, rfl⟩))
  go_ret
  exact ⟨rfl, below_grow k os⟩
end Go.Proofs.YtfjeghalkmkgoaaGreatDoor
namespace Go.Proofs.YtfjeghalkmkgoaaGreatDoor
open Go.RowKit

theorem join_snoc (l : List (List UInt8)) (x sep : List UInt8) (h : l ≠ []) : Lib.join (l ++ [x]) sep = Lib.join l sep ++ sep ++ x := by
  cases l with
  | nil => exact absurd rfl h
  | cons y r =>
    rw [List.cons_append, Lib.join_cons, Lib.join_cons]
    simp [Lib.joinTail]
theorem map_take_ne {α β : Type} (f : α → β) (l : List α) (k : Nat) (hk : 0 < k) (hl : k ≤ l.length) : (l.take k).map f ≠ [] := by
  intro e
  have h : ((l.take k).map f).length = 0 := by rw [e]; rfl
  rw [List.length_map, List.length_take] at h
  omega
theorem ba_app_size (a b : ByteArray) : (a ++ b).size = a.size + b.size := ByteArray.size_append
theorem ba_one (c : UInt8) : (⟨#[c]⟩ : ByteArray).size = 1 := rfl
theorem ba_list (l : List UInt8) : (⟨l.toArray⟩ : ByteArray).size = l.length := rfl
def rowT (r : List Int) : List UInt8 := Lib.join (r.map Lib.itoa) [44]
def fmtT (m : List (List Int)) : List UInt8 := Lib.join (m.map rowT) [59]
/-- What stands before the k-th row. -/
def preT (m : List (List Int)) (k : Nat) : List UInt8 := if k = 0 then [] else Lib.join ((m.take k).map rowT) [59] ++ [59]
theorem preT_join (m : List (List Int)) (k : Nat) (h : k < m.length) : preT m k ++ rowT (m.getD k []) = Lib.join ((m.take (k + 1)).map rowT) [59] := by
  rw [getD_row m k h, List.take_succ_eq_append_getElem h, List.map_append]
  unfold preT
  by_cases h0 : k = 0
  · subst h0
    rw [if_pos rfl]
    simp [Lib.join_one]
  · rw [if_neg h0, List.map_cons, List.map_nil, join_snoc _ _ _ (map_take_ne _ _ _ (by omega) (by omega))]
theorem rowT_step (r : List Int) (j : Nat) (h : j < r.length) : (if j = 0 then [] else Lib.join ((r.take j).map Lib.itoa) [44] ++ [44]) ++ Lib.itoa (r.getD j 0) = Lib.join ((r.take (j + 1)).map Lib.itoa) [44] := by
  have hg : r.getD j 0 = r[j] := by simp [List.getD, h]
  rw [hg, List.take_succ_eq_append_getElem h, List.map_append]
  by_cases h0 : j = 0
  · subst h0
    rw [if_pos rfl]
    simp [Lib.join_one]
  · rw [if_neg h0, List.map_cons, List.map_nil, join_snoc _ _ _ (map_take_ne _ _ _ (by omega) (by omega))]
theorem itoa_short {x : Int} (h : -3 ≤ x ∧ x ≤ 2) : (Lib.itoa x).length ≤ 2 := by
  by_cases h0 : x < 0
  · obtain ⟨m, rfl⟩ : ∃ m : Nat, x = -(m : Int) := ⟨x.natAbs, by omega⟩
    rw [itoa_neg m (by omega), dec_small (by omega)]
    simp
  · obtain ⟨m, rfl⟩ := Int.eq_ofNat_of_zero_le (show 0 ≤ x by omega)
    rw [itoa_pos m, dec_small (by omega)]
    simp
theorem isC_entry {m : List (List Int)} (h : IsC m) {i j : Nat} (hi : i < m.length) (hj : j < m.length) : -3 ≤ entry m i j ∧ entry m i j ≤ 2 := by
  rcases h.2.1 i j hi hj with h | h
  · omega
  · omega
noncomputable def fmtM (m : List (List Int)) : List UInt8 := if isB m = true then fmtT m else []
theorem fmtM_yes {m : List (List Int)} (h : IsC m) : fmtM m = fmtT m := if_pos (isB_yes h)
theorem fmtM_no {m : List (List Int)} (h : ¬ IsC m) : fmtM m = [] := by unfold fmtM; rw [isB_no h]; rfl
theorem isc_wD (B : Nat) (v : Value) (m : List (List Int)) (c : Bool) (hc : isB m = c) (w : World) (h : MatB B w v m) (hf : RowsFit m) :
    Calls Tryz.prog 11 #[v] w fun e w' => e = .returned (.bool c) ∧ Below w.heap.size w w' :=
  (isc_0 B v m c hc w h hf).mono fun e w' ⟨h1, q, h2⟩ => ⟨h1, by rw [h2]; exact below_drewN q⟩
theorem icm_wD (B : Nat) (v : Value) (m : List (List Int)) (c : Bool) (hc : isB m = c) (w : World) (h : MatB B w v m) (hf : RowsFit m) :
    Calls Tryz.prog 36 #[v] w fun e w' => e = .returned (.bool c) ∧ Below w.heap.size w w' :=
  (icm_any B v m w h hf).mono fun e w' ⟨h1, q, h2⟩ => ⟨by rw [h1]; exact ret_boolean hc, by rw [h2]; exact below_drewN q⟩
theorem str_ofl {s : ByteArray} {l : List UInt8} (h : s.data.toList = l) : s = ⟨l.toArray⟩ := by subst h; rfl
theorem size_of_l {s : ByteArray} {l : List UInt8} (h : s.data.toList = l) : s.size = l.length := by subst h; exact Array.length_toList.symm

end Go.Proofs.YtfjeghalkmkgoaaGreatDoor
namespace Go.Proofs.YtfjeghalkmkgoaaGreatDoor
open Go.RowKit

theorem RowB.getD {B : Nat} {w : World} {a : Option Addr} {n cap : Nat} {l : List Int} (h : RowB B w (.slice a n cap) l) {j : Nat} (hj : j < n) :
    ∃ b off, a = some ⟨b, off, none⟩ ∧ b < B ∧ w.cell? ⟨b, off + j, none⟩ = some (.int .i64 (l.getD j 0)) := by
  obtain ⟨b, off, hl, h1, h2, h3⟩ := h.get hj
  exact ⟨b, off, h1, h2, by rw [h3]; simp [List.getD, hl]⟩
end Go.Proofs.YtfjeghalkmkgoaaGreatDoor
