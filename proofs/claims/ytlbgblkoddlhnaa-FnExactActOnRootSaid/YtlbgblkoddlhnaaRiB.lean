/-
  Roots: what the program's reflection in place leaves of a list of the call's own.
-/
import Derived.Test.YtlbgblkoddlhnaaRiA
namespace Go.Proofs.Ytlbgblkoddlhnaa
open Go.RowKit

theorem rowI_rowB {A B : Nat} {w : World} {g n cap : Nat} {l : List Int} (h : RowI A B w (.slice (some ⟨g, 0, none⟩) n cap) l) (hl : l.length = n) : RowB (g + 1) w (.slice (some ⟨g, 0, none⟩) n cap) l := by
  refine Or.inr ⟨g, 0, cap, by rw [hl], by omega, fun j hj => ?_⟩
  have h1 := h.1
  rw [hl] at h1
  have h2 := h1.cellAt j (by omega)
  rw [Nat.zero_add, h2]; simp [intsV, hj]
theorem rrp_any (A B : Nat) (v v' : Value) (m : List (List Int)) (l : List Int) (i : Nat) (w : World) (h : MatB B w v m) (h' : RowI A w.heap.size w v' l) (_hBA : B ≤ A) (hI : Rows0 m m.length m.length) (hll : l.length = m.length) (hi : i < m.length) (hn : m.length ≤ 1048576) :
    Calls Try.prog 56 #[v, .int .i64 i, v'] w fun e w' => e = .returned (.tuple #[]) ∧ RowI A w'.heap.size w' v' (rflR m i l) ∧ w.grownBy w' v'.ownBlock ∧ w'.heap.size = w.heap.size := by
  obtain ⟨g, cap', rfl, hAg, hg⟩ := h'.at' (by omega)
  have hown := h'.1
  have hfz := hown.frozenAt i
  refine (rrc_any B g 0 l.length cap' v m l i w h (rowI_rowB h' rfl) rfl (by rw [Nat.zero_add]; exact hfz) hI hll hi hn).mono ?_
  rintro e w' ⟨rfl, q, rfl⟩
  rw [Nat.zero_add]
  obtain ⟨hst, hgs⟩ := hown.stored i (.int .i64 (subW (l.getD i 0) (prK m i l l.length)))
  rw [intsV_set] at hst
  refine ⟨rfl, ⟨?_, fun g' hg' => ?_⟩, ⟨rfl, rfl, rfl, by show w.heap.size ≤ (w.setCell _ _).heap.size; rw [World.size_setCell]; exact Nat.le_refl _, fun b hb hne => hgs.block b hb hne⟩, by show (w.setCell _ _).heap.size = _; rw [World.size_setCell]⟩
  · rw [rflR_len]; exact hst
  · have : g = g' := by simpa [Value.ownBlock] using hg'
    show g' < (w.setCell _ _).heap.size
    rw [World.size_setCell]; omega
end Go.Proofs.Ytlbgblkoddlhnaa
