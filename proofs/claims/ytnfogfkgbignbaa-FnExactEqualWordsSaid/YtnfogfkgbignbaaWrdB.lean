/-
  Words: the contracts as the laws' texts ask for them.
-/
import Derived.Test.YtnfogfkgbignbaaWrdK
import Derived.Test.YtnfogfkgbignbaaWrdL
import Derived.Test.YtnfogfkgbignbaaWrdA
namespace Go.Proofs.Ytnfogfkgbignbaa
open Go.RowKit

theorem isws_b (B B' : Nat) (v v' : Value) (m : List (List Int)) (l : List Int) (w : World) (h : MatB B w v m) (h' : RowB B' w v' l) (hf : RowsFit m) (hl : l.length ≤ maxLen) :
    Calls Try.prog 19 #[v, v'] w fun e w' => e = .returned (.bool (wordB m l)) ∧ Below w.heap.size w w' :=
  (isws_any B B' v v' m l w h h' hf hl).mono fun e w' ⟨h1, q, h2⟩ => ⟨h1, by rw [h2]; exact below_drewN q⟩
theorem iswi_b (B B' : Nat) (v v' : Value) (m : List (List Int)) (l : List Int) (w : World) (h : MatB B w v m) (h' : RowB B' w v' l) (hf : RowsFit m) (hl : l.length ≤ maxLen) :
    Calls Try.prog 18 #[v, v'] w fun e w' => e = .returned (.bool (wordB m l)) ∧ Below w.heap.size w w' :=
  (iswi_any B B' v v' m l w h h' hf hl).mono fun e w' ⟨h1, q, h2⟩ => ⟨h1, by rw [h2]; exact below_drewN q⟩
theorem cati_b (B B' : Nat) (v v' : Value) (l l' : List Int) (w : World) (h : RowB B w v l) (h' : RowB B' w v' l') (hB : B ≤ w.heap.size) (hB' : B' ≤ w.heap.size) (hl : l.length ≤ 1048576) (hl' : l'.length ≤ 1048576) :
    Calls Try.prog 28 #[v, v'] w (MakesS w (l ++ l')) :=
  cati_any (max B B') v v' l l' w (h.mono (Nat.le_max_left _ _)) (h'.mono (Nat.le_max_right _ _)) (Nat.max_le.2 ⟨hB, hB'⟩) hl hl'
theorem cmps_b (B B' : Nat) (v v' : Value) (l l' : List Int) (w : World) (h : RowB B w v l) (h' : RowB B' w v' l') (hl : l.length ≤ maxLen) (hl' : l'.length ≤ maxLen) :
    Calls Try.prog 26 #[v, v'] w fun e w' => e = .returned (.int .i64 (cmpW l l')) ∧ Below w.heap.size w w' :=
  (cmps_any (max B B') v v' l l' w (h.mono (Nat.le_max_left _ _)) (h'.mono (Nat.le_max_right _ _)) hl hl').mono fun e w' ⟨h1, q, h2⟩ => ⟨h1, by rw [h2]; exact below_drewN q⟩
theorem cmpwi_b (B B' : Nat) (v v' : Value) (l l' : List Int) (w : World) (h : RowB B w v l) (h' : RowB B' w v' l') (hl : l.length ≤ maxLen) (hl' : l'.length ≤ maxLen) :
    Calls Try.prog 22 #[v, v'] w fun e w' => e = .returned (.int .i64 (cmpW l l')) ∧ Below w.heap.size w w' :=
  (cmpwi_any (max B B') v v' l l' w (h.mono (Nat.le_max_left _ _)) (h'.mono (Nat.le_max_right _ _)) hl hl').mono fun e w' ⟨h1, h2⟩ => ⟨h1, by rw [← h2]; exact Below.refl _ _⟩
theorem eqws_b (B B' : Nat) (v v' : Value) (l l' : List Int) (w : World) (h : RowB B w v l) (h' : RowB B' w v' l') (hl : l.length ≤ maxLen) (hl' : l'.length ≤ maxLen) :
    Calls Try.prog 44 #[v, v'] w fun e w' => e = .returned (.bool (eqwB l l')) ∧ Below w.heap.size w w' :=
  (eqws_any (max B B') v v' l l' w (h.mono (Nat.le_max_left _ _)) (h'.mono (Nat.le_max_right _ _)) hl hl').mono fun e w' ⟨h1, q, h2⟩ => ⟨h1, by rw [h2]; exact below_drewN q⟩
theorem eqwi_b (B B' : Nat) (v v' : Value) (l l' : List Int) (w : World) (h : RowB B w v l) (h' : RowB B' w v' l') (hl : l.length ≤ maxLen) (hl' : l'.length ≤ maxLen) :
    Calls Try.prog 27 #[v, v'] w fun e w' => e = .returned (.bool (eqwB l l')) ∧ Below w.heap.size w w' :=
  (eqwi_any (max B B') v v' l l' w (h.mono (Nat.le_max_left _ _)) (h'.mono (Nat.le_max_right _ _)) hl hl').mono fun e w' ⟨h1, h2⟩ => ⟨h1, by rw [← h2]; exact Below.refl _ _⟩
noncomputable def fmtB (l : List Int) : ByteArray := ⟨(fmtW l).toArray⟩
theorem fmws_b (B : Nat) (v : Value) (l : List Int) (w : World) (h : RowB B w v l) (hB : B ≤ w.heap.size) (hl : l.length ≤ 1048576) :
    Calls Try.prog 17 #[v] w fun e w' => e = .returned (.string (fmtB l)) ∧ Below w.heap.size w w' := fmws_any B v l w h hB hl
theorem fmwi_b (B : Nat) (v : Value) (l : List Int) (w : World) (h : RowB B w v l) (hB : B ≤ w.heap.size) (hl : l.length ≤ 1048576) :
    Calls Try.prog 15 #[v] w fun e w' => e = .returned (.string (fmtB l)) ∧ Below w.heap.size w w' := fmwi_any B v l w h hB hl
theorem int_bnd {n : Int} (h : (Lit.int .i64 n).wf = true) : -9223372036854775808 ≤ n ∧ n ≤ 9223372036854775807 := by
  have h' : IntKind.i64.min ≤ n ∧ n ≤ IntKind.i64.max := by simpa [Lit.wf] using h
  exact h'
theorem altL_len (i j n : Int) : (altL i j n).length ≤ 15 := by unfold altL; rw [altK_len]; exact Nat.min_le_right _ _
theorem pwL_len (m : List (List Int)) (l : List UInt8) : (pwL m l).length ≤ l.length := by
  unfold pwL; split
  · exact parW_len l
  · simp
end Go.Proofs.Ytnfogfkgbignbaa
