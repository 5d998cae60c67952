/-
  FormatCartan of the model: what the call returns.
-/
import Derived.Test.YtlbgblkoddlhnabDoorImC
import Derived.Test.YtlbgblkoddlhnabDoorFrm
import Derived.Test.YtlbgblkoddlhnabDoorFmt
import Derived.Lib.Join
namespace Go.Proofs.YtlbgblkoddlhnabDoor
open Go.RowKit

theorem join_snoc (l : List (List UInt8)) (x sep : List UInt8) (h : l ≠ []) : Lib.join (l ++ [x]) sep = Lib.join l sep ++ sep ++ x := by
  cases l with
  | nil => exact absurd rfl h
  | cons y r =>
    rw [List.cons_append, Lib.join_cons, Lib.join_cons]
    simp [Lib.joinTail]
theorem map_take_ne {α β : Type} (f : α → β) (l : List α) (k : Nat) (hk : 0 < k) (hl : k ≤ l.length) : (l.take k).map f ≠ [] := by
  intro e
  have h : ((l.take k).map f).length = 0 := by rw [e]; rfl
  rw [List.length_map, List.length_take] at h
  omega
theorem ba_app_size (a b : ByteArray) : (a ++ b).size = a.size + b.size := ByteArray.size_append
theorem ba_one (c : UInt8) : (⟨#[c]⟩ : ByteArray).size = 1 := rfl
theorem ba_list (l : List UInt8) : (⟨l.toArray⟩ : ByteArray).size = l.length := rfl
def rowT (r : List Int) : List UInt8 := Lib.join (r.map Lib.itoa) [44]
def fmtT (m : List (List Int)) : List UInt8 := Lib.join (m.map rowT) [59]
/-- What stands before the k-th row. -/
def preT (m : List (List Int)) (k : Nat) : List UInt8 := if k = 0 then [] else Lib.join ((m.take k).map rowT) [59] ++ [59]
theorem preT_join (m : List (List Int)) (k : Nat) (h : k < m.length) : preT m k ++ rowT (m.getD k []) = Lib.join ((m.take (k + 1)).map rowT) [59] := by
  rw [getD_row m k h, List.take_succ_eq_append_getElem h, List.map_append]
  unfold preT
  by_cases h0 : k = 0
  · subst h0
    rw [if_pos rfl]
    simp [Lib.join_one]
  · rw [if_neg h0, List.map_cons, List.map_nil, join_snoc _ _ _ (map_take_ne _ _ _ (by omega) (by omega))]
theorem rowT_step (r : List Int) (j : Nat) (h : j < r.length) : (if j = 0 then [] else Lib.join ((r.take j).map Lib.itoa) [44] ++ [44]) ++ Lib.itoa (r.getD j 0) = Lib.join ((r.take (j + 1)).map Lib.itoa) [44] := by
  have hg : r.getD j 0 = r[j] := by simp [List.getD, h]
  rw [hg, List.take_succ_eq_append_getElem h, List.map_append]
  by_cases h0 : j = 0
  · subst h0
    rw [if_pos rfl]
    simp [Lib.join_one]
  · rw [if_neg h0, List.map_cons, List.map_nil, join_snoc _ _ _ (map_take_ne _ _ _ (by omega) (by omega))]
theorem itoa_short {x : Int} (h : -3 ≤ x ∧ x ≤ 2) : (Lib.itoa x).length ≤ 2 := by
  by_cases h0 : x < 0
  · obtain ⟨m, rfl⟩ : ∃ m : Nat, x = -(m : Int) := ⟨x.natAbs, by omega⟩
    rw [itoa_neg m (by omega), dec_small (by omega)]
    simp
  · obtain ⟨m, rfl⟩ := Int.eq_ofNat_of_zero_le (show 0 ≤ x by omega)
    rw [itoa_pos m, dec_small (by omega)]
    simp
theorem isC_entry {m : List (List Int)} (h : IsC m) {i j : Nat} (hi : i < m.length) (hj : j < m.length) : -3 ≤ entry m i j ∧ entry m i j ≤ 2 := by
  rcases h.2.1 i j hi hj with h | h
  · omega
  · omega
noncomputable def fmtM (m : List (List Int)) : List UInt8 := if isB m = true then fmtT m else []
theorem fmtM_yes {m : List (List Int)} (h : IsC m) : fmtM m = fmtT m := if_pos (isB_yes h)
theorem fmtM_no {m : List (List Int)} (h : ¬ IsC m) : fmtM m = [] := by unfold fmtM; rw [isB_no h]; rfl
theorem str_ofl {s : ByteArray} {l : List UInt8} (h : s.data.toList = l) : s = ⟨l.toArray⟩ := by subst h; rfl
theorem size_of_l {s : ByteArray} {l : List UInt8} (h : s.data.toList = l) : s.size = l.length := by subst h; exact Array.length_toList.symm

end Go.Proofs.YtlbgblkoddlhnabDoor
