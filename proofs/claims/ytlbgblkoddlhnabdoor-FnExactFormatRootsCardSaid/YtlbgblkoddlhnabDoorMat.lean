/-
  A law that takes a matrix: what the argument reads as.
-/
import Derived.Test.YtlbgblkoddlhnabDoorInts
import Derived.Test.YtlbgblkoddlhnabDoorHelp
import Derived.Deep.Matrix
import Derived.ProofKit
namespace Go.Proofs.YtlbgblkoddlhnabDoor
open Go.ChangeShapes Go.WideShapes Go.ChangeAt Go.ChangeMaps Go.RowKit Go.Deep

set_option maxRecDepth 100000 in
theorem mat_open {H : Type} {enc : TypeId × Value → H} {W : World} {base : Nat} {v : Value} {d : DataW H} {ps : List MemPlace} (hval : Value.okWide Tryd.prog W .any base 22 v)
    (h : DataW.Trod enc Tryd.prog W 0 (fun _ => true) true 22 v d ps) : ∃ m : List (List Int), MatB W.heap.size W v m ∧ RowsFit m := by
  obtain ⟨a0, len, cap, rfl⟩ := okWide_slice Tryd.underlying22 hval
  obtain ⟨fuel, hf⟩ := h
  have ce : Tryd.prog.cellsOf 29 = 1 := by kernel_rfl
  have cq : Tryd.prog.cellsOf 3 = 1 := by kernel_rfl
  rcases open_int_rows Tryd.underlying22 Tryd.underlying29 Tryd.underlying3 ce cq hf with ⟨hcs, _⟩ | ⟨a, len', cap', A, L, C, Z, hcs, _, hl, hm, _, hrow⟩
  · simp [Value.cells] at hcs
    obtain ⟨rfl, rfl, rfl⟩ := hcs
    exact ⟨[], Or.inl ⟨rfl, none, 0, rfl⟩, Nat.zero_le _, fun j hj => by simp at hj⟩
  · simp [Value.cells] at hcs
    obtain ⟨rfl, rfl, rfl⟩ := hcs
    refine ⟨(List.range len).map fun r => (Z r).take (L r), ?_, ?_⟩
    · by_cases hl0 : len = 0
      · subst hl0
        exact Or.inl ⟨rfl, _, _, rfl⟩
      · obtain ⟨b, off, spot⟩ := a
        have h0 := (hrow 0 (by omega)).1
        have hspot : spot = none := by simpa [Addr.add] using World.cell?_spot h0
        subst hspot
        have hb : b < W.heap.size := by
          have := World.block_lt_of_cell? W _ h0
          simpa [Addr.add] using this
        refine Or.inr ⟨b, off, cap, by simp, hb, fun j hj => ?_⟩
        have hj' : j < len := by simpa using hj
        obtain ⟨h1, h2, h3, h4, h5, h6, h7⟩ := hrow j (by omega)
        have hadd : (⟨b, off, none⟩ : Addr).add j = ⟨b, off + j, none⟩ := by unfold Addr.add; split <;> simp_all
        rw [hadd] at h1
        refine ⟨_, h1, ?_⟩
        simp only [List.getElem_map, List.getElem_range]
        by_cases hz : L j = 0
        · exact Or.inl ⟨by rw [hz]; simp, _, _, by rw [hz]⟩
        · cases hA : A j with
          | none => have := h6 hA; omega
          | some a' =>
            obtain ⟨_, h8⟩ := h7 a' hA
            obtain ⟨b', off', spot'⟩ := a'
            have h9 := h8 0 (by omega)
            have hspot' : spot' = none := by simpa [Addr.add] using World.cell?_spot h9
            subst hspot'
            have hb' : b' < W.heap.size := by
              have := World.block_lt_of_cell? W _ h9
              simpa [Addr.add] using this
            have hlen : ((Z j).take (L j)).length = L j := by rw [List.length_take]; omega
            refine Or.inr ⟨b', off', C j, by rw [hlen], hb', fun c hc => ?_⟩
            have hc' : c < L j := by omega
            have hadd' : (⟨b', off', none⟩ : Addr).add c = ⟨b', off' + c, none⟩ := by unfold Addr.add; split <;> simp_all
            have h10 := h8 c (by omega)
            rw [hadd'] at h10
            rw [h10]
            simp [List.getD, show c < (Z j).length by omega]
    · refine ⟨by simp; omega, fun j hj => ?_⟩
      have hj' : j < len := by simpa using hj
      obtain ⟨h1, h2, h3, h4, _⟩ := hrow j (by omega)
      simp only [List.getElem_map, List.getElem_range, List.length_take]
      omega
theorem small_of {m : List (List Int)} (h : szSum m ≤ 1048576) : Small m := by
  unfold szSum at h
  refine ⟨by omega, fun j hj => ?_⟩
  have h1 := sum_take_succ m j hj
  have h2 := sum_take_le m (j + 1)
  omega
end Go.Proofs.YtlbgblkoddlhnabDoor
