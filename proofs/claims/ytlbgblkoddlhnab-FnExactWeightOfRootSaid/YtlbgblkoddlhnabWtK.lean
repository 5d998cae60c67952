/-
  Weights: what the program's ReflectWeight, AddWeights and SimpleRootWeight return.
-/
import Derived.Test.YtlbgblkoddlhnabRiC
import Derived.Test.YtlbgblkoddlhnabTrI
import Derived.Test.YtlbgblkoddlhnabGet
import Derived.Deep.QuietTactic
namespace Go.Proofs.Ytlbgblkoddlhnab
open Go.RowKit

theorem row_whole6 (w : World) (l : List Int) (h : l.length ≤ 1048576) : RowI w.heap.size (w.alloc (.cells (intsV l).toArray 3)).heap.size (w.alloc (.cells (intsV l).toArray 3)) (.slice (some ⟨w.heap.size, 0, none⟩) l.length l.length) l := by
  refine ⟨World.ownsRow_lit (base := w.heap.size) (e := 3) (size := 1) w (intsV l).toArray l.length (Nat.le_refl _) (by unfold maxLen; omega) (by simp [intsV]), fun g hg => ?_⟩
  have : w.heap.size = g := by simpa [Value.ownBlock] using hg
  simp; omega
def filS (l : List Int) (k : Nat) : List Int := l.take k ++ List.replicate (l.length - k) 0
theorem filS_zero (l : List Int) : filS l 0 = zerosR l.length := by simp [filS, zerosR]
theorem filS_len (l : List Int) (k : Nat) (h : k ≤ l.length) : (filS l k).length = l.length := by simp [filS]; omega
theorem filS_end (l : List Int) : filS l l.length = l := by simp [filS]
theorem filS_set (l : List Int) (k : Nat) (h : k < l.length) : (filS l k).set k (l.getD k 0) = filS l (k + 1) := by
  have e : l.length - k = (l.length - (k + 1)) + 1 := by omega
  have ht : (l.take k).length = k := by rw [List.length_take]; omega
  have hg : l.getD k 0 = l[k] := by simp [List.getD, h]
  unfold filS
  rw [e, List.replicate_succ, List.set_append_right _ _ (by omega), ht, Nat.sub_self, List.set_cons_zero, List.take_succ_eq_append_getElem h, List.append_assoc, hg]
  rfl
end Go.Proofs.Ytlbgblkoddlhnab
