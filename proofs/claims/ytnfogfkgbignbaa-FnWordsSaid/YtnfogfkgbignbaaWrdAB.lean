/-
  Words: what the program's AlternatingWord returns.
  Words: the contracts as the laws' texts ask for them.
-/
import Derived.Test.YtnfogfkgbignbaaWrdF
import Derived.Test.YtnfogfkgbignbaaWrdKL
namespace Go.Proofs.Ytnfogfkgbignbaa
open Go.RowKit

def altSt (i j : Int) (n k : Nat) : List Int := altK i j k ++ List.replicate (n - k) 0
theorem altSt_len (i j : Int) (n k : Nat) (h : k ≤ n) : (altSt i j n k).length = n := by simp [altSt, altK_len]; omega
theorem altSt_zero (i j : Int) (n : Nat) : altSt i j n 0 = zerosR n := by simp [altSt, altK, zerosR]
theorem altSt_end (i j : Int) (n : Nat) : altSt i j n n = altK i j n := by simp [altSt]
theorem altSt_set (i j : Int) (n k : Nat) (h : k < n) : (altSt i j n k).set k (if k % 2 = 0 then i else j) = altSt i j n (k + 1) := by
  have e : n - k = (n - (k + 1)) + 1 := by omega
  unfold altSt
  rw [e, List.replicate_succ, List.set_append_right _ _ (by rw [altK_len]; omega), altK_len, Nat.sub_self, List.set_cons_zero]
  by_cases hev : k % 2 = 0
  · rw [if_pos hev, ← altK_even hev, List.append_assoc]; rfl
  · rw [if_neg hev, ← altK_odd hev, List.append_assoc]; rfl
theorem altSt_cells (i j : Int) (n k : Nat) (h : k < n) : (intsV (altSt i j n k)).set k (.int .i64 (if k % 2 = 0 then i else j)) = intsV (altSt i j n (k + 1)) := by
  rw [← altSt_set i j n k h, ← intsV_set]
theorem altSt_cell (i j : Int) (n k : Nat) (h : k < n) : ∃ c, (intsV (altSt i j n k)).toArray[k]? = some c :=
  ⟨_, Array.getElem?_eq_getElem (by simp [intsV, altSt_len i j n k (by omega)]; omega)⟩
set_option maxHeartbeats 1000000 in
set_option maxRecDepth 100000 in
theorem alti_any (i j n : Int) (w : World) (hn : n ≤ 9223372036854775807) (hn0 : -9223372036854775808 ≤ n) :
    Calls Try.prog 32 #[.int .i64 i, .int .i64 j, .int .i64 n] w (MakesS w (altL i j n)) := by
  obtain ⟨N, hN⟩ : ∃ N : Nat, N = min n.toNat 15 := ⟨_, rfl⟩
  have HV := Lib.hid (show altL i j n = altK i j N from by rw [hN]; rfl)
  have hN15 : N ≤ 15 := by omega
  have hmin : min (max n 0) 15 = (N : Int) := by omega
  have hmk : (Instr.makeSlice 25 (.int .i64 N) (.int .i64 N)).run Try.prog (w.alloc (.cells #[.int .i64 i, .int .i64 j] 67)) = .ok (.slice (some ⟨w.heap.size + 1, 0, none⟩) N N) ((w.alloc (.cells #[.int .i64 i, .int .i64 j] 67)).alloc (.cells (intsV (altSt i j N 0)).toArray 3)) := by
    have h := makeInts N (by omega) (w.alloc (.cells #[.int .i64 i, .int .i64 j] 67))
    rw [altSt_zero, h]
    simp
  have HEND : Hid (RowI w.heap.size ((w.alloc (.cells #[.int .i64 i, .int .i64 j] 67)).alloc (.cells (intsV (altSt i j N N)).toArray 3)).heap.size ((w.alloc (.cells #[.int .i64 i, .int .i64 j] 67)).alloc (.cells (intsV (altSt i j N N)).toArray 3)) (.slice (some ⟨w.heap.size + 1, 0, none⟩) N N) (altK i j N)) := Lib.hid (by
    have h1 := row_whole (w.alloc (.cells #[.int .i64 i, .int .i64 j] 67)) (altK i j N) (by rw [altK_len]; omega)
    rw [altK_len] at h1
    rw [altSt_end]
    have h2 := h1.mono (A' := w.heap.size) (by simp) (Nat.le_refl _)
    simpa using h2)
  have HCE := Lib.hid (fun k (hk : k < N) => altSt_cell i j N k hk)
  have HSET := Lib.hid (fun k (hk : k < N) => altSt_cells i j N k hk)
  clear hN
  go_enter Try.func32, Try.ntmps32
  go_wp2_with fail
  clear hmk hmin
  go_loopw [19] (fun i' wr => ∃ (k : Nat), k ≤ N ∧ i' = .int .i64 k ∧ wr = (w.alloc (.cells #[.int .i64 i, .int .i64 j] 67)).alloc (.cells (intsV (altSt i j N k)).toArray 3)) (fun i' _ => N - (intOf i').toNat)
  case atStart => exact ⟨0, Nat.zero_le _, rfl, rfl⟩
  case round =>
    obtain ⟨k, hk, rfl, rfl⟩ := hrel
    by_cases hlt : k < N
    · obtain ⟨c, hce⟩ := HCE.out k hlt
      by_cases hev : k % 2 = 0
      · have hset := HSET.out k hlt
        rw [if_pos hev] at hset
        have HS := Lib.hid hset
        have hm : (k : Int) % 2 = 0 := by omega
        clear hset hev
        go_wp2_with fail
        rw [HS.out]
        exact ⟨⟨k + 1, by omega, by go_num, rfl⟩, by simp [intOf]; omega⟩
      · have hset := HSET.out k hlt
        rw [if_neg hev] at hset
        have HS := Lib.hid hset
        have hm : (k : Int) % 2 = 1 := by omega
        clear hset hev
        go_wp2_with fail
        rw [HS.out]
        exact ⟨⟨k + 1, by omega, by go_num, rfl⟩, by simp [intOf]; omega⟩
    · obtain rfl : k = N := by omega
      go_wp2_with fail
      go_ret
      exact ⟨_, rfl, ⟨by rw [HV.out]; exact HEND.out, Nat.le_refl _⟩, ((Below.refl _ _).alloc (Nat.le_refl _) _).alloc (by simp) _⟩
end Go.Proofs.Ytnfogfkgbignbaa
namespace Go.Proofs.Ytnfogfkgbignbaa
open Go.RowKit

theorem isws_b (B B' : Nat) (v v' : Value) (m : List (List Int)) (l : List Int) (w : World) (h : MatB B w v m) (h' : RowB B' w v' l) (hf : RowsFit m) (hl : l.length ≤ maxLen) :
    Calls Try.prog 19 #[v, v'] w fun e w' => e = .returned (.bool (wordB m l)) ∧ Below w.heap.size w w' :=
  (isws_any B B' v v' m l w h h' hf hl).mono fun e w' ⟨h1, q, h2⟩ => ⟨h1, by rw [h2]; exact below_drewN q⟩
theorem iswi_b (B B' : Nat) (v v' : Value) (m : List (List Int)) (l : List Int) (w : World) (h : MatB B w v m) (h' : RowB B' w v' l) (hf : RowsFit m) (hl : l.length ≤ maxLen) :
    Calls Try.prog 18 #[v, v'] w fun e w' => e = .returned (.bool (wordB m l)) ∧ Below w.heap.size w w' :=
  (iswi_any B B' v v' m l w h h' hf hl).mono fun e w' ⟨h1, q, h2⟩ => ⟨h1, by rw [h2]; exact below_drewN q⟩
theorem cati_b (B B' : Nat) (v v' : Value) (l l' : List Int) (w : World) (h : RowB B w v l) (h' : RowB B' w v' l') (hB : B ≤ w.heap.size) (hB' : B' ≤ w.heap.size) (hl : l.length ≤ 1048576) (hl' : l'.length ≤ 1048576) :
    Calls Try.prog 28 #[v, v'] w (MakesS w (l ++ l')) :=
  cati_any (max B B') v v' l l' w (h.mono (Nat.le_max_left _ _)) (h'.mono (Nat.le_max_right _ _)) (Nat.max_le.2 ⟨hB, hB'⟩) hl hl'
theorem cmps_b (B B' : Nat) (v v' : Value) (l l' : List Int) (w : World) (h : RowB B w v l) (h' : RowB B' w v' l') (hl : l.length ≤ maxLen) (hl' : l'.length ≤ maxLen) :
    Calls Try.prog 26 #[v, v'] w fun e w' => e = .returned (.int .i64 (cmpW l l')) ∧ Below w.heap.size w w' :=
  (cmps_any (max B B') v v' l l' w (h.mono (Nat.le_max_left _ _)) (h'.mono (Nat.le_max_right _ _)) hl hl').mono fun e w' ⟨h1, q, h2⟩ => ⟨h1, by rw [h2]; exact below_drewN q⟩
theorem cmpwi_b (B B' : Nat) (v v' : Value) (l l' : List Int) (w : World) (h : RowB B w v l) (h' : RowB B' w v' l') (hl : l.length ≤ maxLen) (hl' : l'.length ≤ maxLen) :
    Calls Try.prog 22 #[v, v'] w fun e w' => e = .returned (.int .i64 (cmpW l l')) ∧ Below w.heap.size w w' :=
  (cmpwi_any (max B B') v v' l l' w (h.mono (Nat.le_max_left _ _)) (h'.mono (Nat.le_max_right _ _)) hl hl').mono fun e w' ⟨h1, h2⟩ => ⟨h1, by rw [← h2]; exact Below.refl _ _⟩
theorem eqws_b (B B' : Nat) (v v' : Value) (l l' : List Int) (w : World) (h : RowB B w v l) (h' : RowB B' w v' l') (hl : l.length ≤ maxLen) (hl' : l'.length ≤ maxLen) :
    Calls Try.prog 44 #[v, v'] w fun e w' => e = .returned (.bool (eqwB l l')) ∧ Below w.heap.size w w' :=
  (eqws_any (max B B') v v' l l' w (h.mono (Nat.le_max_left _ _)) (h'.mono (Nat.le_max_right _ _)) hl hl').mono fun e w' ⟨h1, q, h2⟩ => ⟨h1, by rw [h2]; exact below_drewN q⟩
theorem eqwi_b (B B' : Nat) (v v' : Value) (l l' : List Int) (w : World) (h : RowB B w v l) (h' : RowB B' w v' l') (hl : l.length ≤ maxLen) (hl' : l'.length ≤ maxLen) :
    Calls Try.prog 27 #[v, v'] w fun e w' => e = .returned (.bool (eqwB l l')) ∧ Below w.heap.size w w' :=
  (eqwi_any (max B B') v v' l l' w (h.mono (Nat.le_max_left _ _)) (h'.mono (Nat.le_max_right _ _)) hl hl').mono fun e w' ⟨h1, h2⟩ => ⟨h1, by rw [← h2]; exact Below.refl _ _⟩
noncomputable def fmtB (l : List Int) : ByteArray := ⟨(fmtW l).toArray⟩
theorem fmws_b (B : Nat) (v : Value) (l : List Int) (w : World) (h : RowB B w v l) (hB : B ≤ w.heap.size) (hl : l.length ≤ 1048576) :
    Calls Try.prog 17 #[v] w fun e w' => e = .returned (.string (fmtB l)) ∧ Below w.heap.size w w' := fmws_any B v l w h hB hl
theorem fmwi_b (B : Nat) (v : Value) (l : List Int) (w : World) (h : RowB B w v l) (hB : B ≤ w.heap.size) (hl : l.length ≤ 1048576) :
    Calls Try.prog 15 #[v] w fun e w' => e = .returned (.string (fmtB l)) ∧ Below w.heap.size w w' := fmwi_any B v l w h hB hl
theorem int_bnd {n : Int} (h : (Lit.int .i64 n).wf = true) : -9223372036854775808 ≤ n ∧ n ≤ 9223372036854775807 := by
  have h' : IntKind.i64.min ≤ n ∧ n ≤ IntKind.i64.max := by simpa [Lit.wf] using h
  exact h'
theorem altL_len (i j n : Int) : (altL i j n).length ≤ 15 := by unfold altL; rw [altK_len]; exact Nat.min_le_right _ _
theorem pwL_len (m : List (List Int)) (l : List UInt8) : (pwL m l).length ≤ l.length := by
  unfold pwL; split
  · exact parW_len l
  · simp
end Go.Proofs.Ytnfogfkgbignbaa
