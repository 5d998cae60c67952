/-
  The types with a name, as matrices (no walk here).
-/
import Derived.Test.YtlbgblkoddlhnaaGreatDoorFW12
namespace Go.Proofs.YtlbgblkoddlhnaaGreatDoor
open Go.RowKit

abbrev Chg := List (Nat × Nat × Int)
abbrev ShTab := List (List UInt8 × Nat × Chg)
def Fresh (T : ShTab) (key : List UInt8) : Prop := ∀ p ∈ T, p.1 ≠ key
instance (T : ShTab) (key : List UInt8) : Decidable (Fresh T key) := by unfold Fresh; infer_instance
def shTab : ShTab := [([65, 49], 1, []), ([65, 50], 2, []), ([65, 51], 3, []), ([65, 52], 4, []), ([66, 50], 2, [(1, 0, -2)]), ([66, 51], 3, [(2, 1, -2)]), ([66, 52], 4, [(3, 2, -2)]), ([67, 51], 3, [(1, 2, -2)]), ([67, 52], 4, [(2, 3, -2)]), ([68, 52], 4, [(2, 3, 0), (3, 2, 0), (1, 3, -1), (3, 1, -1)]), ([70, 52], 4, [(2, 1, -2)]), ([71, 50], 2, [(1, 0, -3)]), ([65, 49, 126], 2, [(0, 1, -2), (1, 0, -2)]), ([65, 50, 126], 3, [(0, 2, -1), (2, 0, -1)]), ([65, 51, 126], 4, [(0, 3, -1), (3, 0, -1)]), ([67, 50, 126], 3, [(1, 0, -2), (1, 2, -2)]), ([71, 50, 126], 3, [(2, 1, -3)])]
def shPre (k : Nat) : ShTab := shTab.take k
def appC (m : List (List Int)) (ch : Chg) : List (List Int) := ch.foldl (fun m c => set2 m c.1 c.2.1 c.2.2) m
theorem appC_step (m : List (List Int)) (ch : Chg) (k : Nat) (h : k < ch.length) : set2 (appC m (ch.take k)) ch[k].1 ch[k].2.1 ch[k].2.2 = appC m (ch.take (k + 1)) := by
  unfold appC
  rw [List.take_succ_eq_append_getElem h, List.foldl_append]
  rfl
theorem appC_len (m : List (List Int)) (ch : Chg) : (appC m ch).length = m.length := by
  induction ch generalizing m with
  | nil => rfl
  | cons c ch ih => exact (ih _).trans (set2_len _ _ _ _)
theorem appC_row (m : List (List Int)) (ch : Chg) (i : Nat) : ((appC m ch).getD i []).length = (m.getD i []).length := by
  induction ch generalizing m with
  | nil => rfl
  | cons c ch ih => exact (ih _).trans (set2_getLen _ _ _ _ _)
theorem chainL_row (n i : Nat) (h : i < n) : ((chainL n).getD i []).length = n := by simp [chainL, chainR, List.getD, h]
def typeAt (l : List UInt8) : Option (Nat × Chg) := (shTab.find? fun p => p.1 == l).map (·.2)
def typeM (l : List UInt8) : List (List Int) := match typeAt l with | some (n, ch) => appC (chainL n) ch | none => []
def typeB (l : List UInt8) : Bool := (typeAt l).isSome
theorem sh_facts : ∀ i (h : i < shTab.length), (∀ k (hk : k < i), shTab[k].1 ≠ shTab[i].1) ∧ shTab[i].2.1 < 5 ∧ (∀ c ∈ shTab[i].2.2, c.1 < shTab[i].2.1 ∧ c.2.1 < shTab[i].2.1) ∧ shTab[i].2.2.length ≤ 4 ∧ typeAt shTab[i].1 = some shTab[i].2 := by decide
theorem typeAt_fresh {l : List UInt8} (h : Fresh shTab l) : typeAt l = none := by
  unfold typeAt
  rw [List.find?_eq_none.2 (fun p hp => by simpa using h p hp)]
  rfl
theorem ba_of {s : ByteArray} {l : List UInt8} (h : s.data.toList = l) : s = ⟨l.toArray⟩ := by
  subst h; rfl
end Go.Proofs.YtlbgblkoddlhnaaGreatDoor
