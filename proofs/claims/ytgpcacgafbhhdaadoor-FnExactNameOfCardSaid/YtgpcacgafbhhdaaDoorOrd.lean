/-
  Orders of points: what they are, and the calls that ask whether a list is one.
-/
import Derived.Test.YtgpcacgafbhhdaaDoorSubS
namespace Go.Proofs.YtgpcacgafbhhdaaDoor
open Go.RowKit

def hasB (l : List Int) (x : Int) : Bool := decide (x ∈ l)
theorem hasB_yes {l : List Int} {x : Int} (h : x ∈ l) : hasB l x = true := decide_eq_true h
theorem hasB_no {l : List Int} {x : Int} (h : ¬ x ∈ l) : hasB l x = false := decide_eq_false h
theorem take_getD {l : List Int} {k : Nat} (hk : k < l.length) : l.take (k + 1) = l.take k ++ [l.getD k 0] := by
  rw [List.take_succ_eq_append_getElem hk]; simp [List.getD, hk]
theorem mem_getD {l : List Int} {k : Nat} (hk : k < l.length) : l.getD k 0 ∈ l := by
  have : l.getD k 0 = l[k] := by simp [List.getD, hk]
  rw [this]; exact List.getElem_mem hk
/-- An order, as the model asks for it. -/
def ordC (n : Nat) (l : List Int) (k : Nat) : Prop := (0 ≤ l.getD k 0 ∧ l.getD k 0 ≤ (n : Int) - 1) ∧ ¬ l.getD k 0 ∈ l.take k
def OrdTo (n : Nat) (l : List Int) (k : Nat) : Prop := ∀ i, i < k → ordC n l i
theorem ordTo_step {n k : Nat} {l : List Int} (h : OrdTo n l k) (hk : ordC n l k) : OrdTo n l (k + 1) := fun i hi => by
  rcases Nat.lt_or_ge i k with h' | h'
  · exact h i h'
  · obtain rfl : i = k := by omega
    exact hk
def IsOrd (n : Nat) (l : List Int) : Prop := l.length = n ∧ OrdTo n l l.length
theorem isOrd_pt {n : Nat} {l : List Int} (h : IsOrd n l) : AllPt n l := fun k hk => (h.2 k hk).1
/-- The same, as the program asks for it. -/
def HasAll (n : Nat) (l : List Int) : Prop := l.length = n ∧ ∀ j : Nat, j < n → (j : Int) ∈ l
theorem fin4 {a : Int} (h : 0 ≤ a ∧ a ≤ 3) : a = 0 ∨ a = 1 ∨ a = 2 ∨ a = 3 := by omega
theorem ord_all0 (l : List Int) (n : Nat) (hn : n ≤ 4) (h : IsOrd n l) : HasAll n l := by
  obtain ⟨h0, h⟩ := h
  refine ⟨h0, fun j hj => ?_⟩
  subst h0
  match l, hn, h, hj with
  | [], _, _, hj => simp at hj
  | [a], _, h, hj =>
    have h1 := h 0 (by simp)
    simp [ordC] at h1 hj ⊢
    omega
  | [a, b], _, h, hj =>
    have h1 := h 0 (by simp)
    have h2 := h 1 (by simp)
    simp [ordC] at h1 h2 hj ⊢
    omega
  | [a, b, c], _, h, hj =>
    have h1 := h 0 (by simp)
    have h2 := h 1 (by simp)
    have h3 := h 2 (by simp)
    simp [ordC] at h1 h2 h3 hj ⊢
    omega
  | [a, b, c, d], _, h, hj =>
    have h1 := h 0 (by simp)
    have h2 := h 1 (by simp)
    have h3 := h 2 (by simp)
    have h4 := h 3 (by simp)
    simp [ordC] at h1 h2 h3 h4 hj ⊢
    omega
  | a :: b :: c :: d :: e :: l, hn, _, _ => simp at hn
theorem ord_all1 (l : List Int) (n : Nat) (hn : n ≤ 4) (h : HasAll n l) : IsOrd n l := by
  obtain ⟨h0, h⟩ := h
  refine ⟨h0, fun k hk => ?_⟩
  subst h0
  match l, hn, h, hk with
  | [], _, _, hk => simp at hk
  | [a], _, h, hk =>
    have h1 := h 0 (by simp)
    simp at h1 hk
    subst hk
    simp [ordC]
    omega
  | [a, b], _, h, hk =>
    have h1 := h 0 (by simp)
    have h2 := h 1 (by simp)
    simp at h1 h2 hk
    rcases (show k = 0 ∨ k = 1 by omega) with rfl | rfl <;> simp [ordC] <;> omega
  | [a, b, c], _, h, hk =>
    have h1 := h 0 (by simp)
    have h2 := h 1 (by simp)
    have h3 := h 2 (by simp)
    simp at h1 h2 h3 hk
    rcases (show k = 0 ∨ k = 1 ∨ k = 2 by omega) with rfl | rfl | rfl <;> simp [ordC] <;> omega
  | [a, b, c, d], _, h, hk =>
    have h1 := h 0 (by simp)
    have h2 := h 1 (by simp)
    have h3 := h 2 (by simp)
    have h4 := h 3 (by simp)
    simp at h1 h2 h3 h4 hk
    rcases (show k = 0 ∨ k = 1 ∨ k = 2 ∨ k = 3 by omega) with rfl | rfl | rfl | rfl <;> simp [ordC] <;> omega
  | a :: b :: c :: d :: e :: l, hn, _, _ => simp at hn
open Classical in
noncomputable def ordB (n : Nat) (l : List Int) : Bool := decide (IsOrd n l)
open Classical in
theorem ordB_yes {n : Nat} {l : List Int} (h : IsOrd n l) : ordB n l = true := decide_eq_true h
open Classical in
theorem ordB_no {n : Nat} {l : List Int} (h : ¬ IsOrd n l) : ordB n l = false := decide_eq_false h

/-! ### Is a number in a list -/
set_option maxHeartbeats 1000000 in
set_option maxRecDepth 100000 in
theorem hasl_any (B : Nat) (v : Value) (l : List Int) (x : Int) (w : World) (h : RowB B w v l) (hl : l.length ≤ maxLen) :
    Calls Tryd.prog 53 #[v, .int .i64 x] w fun e w' => e = .returned (.bool (hasB l x)) ∧ w = w' := by
  obtain ⟨a, cap, rfl⟩ := h.slice
  have HL := Lib.hid h; clear h
  have HYES := Lib.hid (fun (k : Nat) (hk : k < l.length) (e : l.getD k 0 = x) => hasB_yes (l := l) (x := x) (e ▸ mem_getD hk))
  have HNO := Lib.hid (fun (h : ¬ x ∈ l.take l.length) => hasB_no (l := l) (x := x) (by rwa [List.take_length] at h))
  have HST := Lib.hid (fun (k : Nat) (hk : k < l.length) (h : ¬ x ∈ l.take k) (e : ¬ l.getD k 0 = x) => show ¬ x ∈ l.take (k + 1) by
    rw [take_getD hk, List.mem_append]; rintro (h' | h'); exact h h'; have h9 := List.mem_singleton.1 h'; exact e h9.symm)
  generalize hasB l x = R at *
  generalize hln : l.length = L at *
  clear hln
  unfold maxLen at hl
  go_enter Tryd.func53, Tryd.ntmps53
  go_wp2_with fail
  go_loopw [5] (fun i wr => ∃ k : Nat, k ≤ L ∧ i = .int .i64 k ∧ wr = w ∧ Hid (¬ x ∈ l.take k)) (fun i _ => L - (intOf i).toNat)
  case atStart => exact ⟨0, Nat.zero_le _, rfl, rfl, Lib.hid (by simp)⟩
  case round =>
    obtain ⟨k, hk, rfl, rfl, hs⟩ := hrel
    by_cases hlt : k < L
    · obtain ⟨lb, loff, rfl, hlb, hlc⟩ := HL.out.getD hlt
      by_cases he : l.getD k 0 = x
      · have HR := Lib.hid (HYES.out k hlt he)
        have hb : (l.getD k 0 == x) = true := by rw [beq_iff_eq]; exact he
        clear he
        generalize l.getD k 0 = y at *
        go_wp2_with fail
        go_ret
        exact ⟨ret_boolean HR.out.symm, rfl⟩
      · have HR := Lib.hid (HST.out k hlt hs.out he)
        have hb : (l.getD k 0 == x) = false := by rw [beq_eq_false_iff_ne]; exact he
        clear he
        generalize l.getD k 0 = y at *
        go_wp2_with fail
        exact ⟨⟨k + 1, by omega, by go_num, trivial, HR⟩, by simp [intOf]; omega⟩
    · obtain rfl : k = L := by omega
      go_wp2_with fail
      go_ret
      exact ⟨ret_boolean (HNO.out hs.out).symm, rfl⟩

theorem has_q (B : Nat) (v : Value) (l : List Int) (x : Int) (c : Bool) (hc : hasB l x = c) (w : World) (h : RowB B w v l) (hl : l.length ≤ maxLen) (q : Nat) :
    Calls Tryd.prog 53 #[v, .int .i64 x] (w.drewN q) fun e w' => e = .returned (.bool c) ∧ ∃ m, w' = (w.drewN q).drewN m :=
  (hasl_any B v l x (w.drewN q) (h.drewN q) hl).mono fun e w' ⟨he, hw⟩ => ⟨by rw [he]; exact ret_boolean hc, 0, hw.symm⟩

end Go.Proofs.YtgpcacgafbhhdaaDoor
