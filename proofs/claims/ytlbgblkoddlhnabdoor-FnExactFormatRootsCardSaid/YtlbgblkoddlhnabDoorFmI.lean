/-
  Formats of rows and matrices as the program makes them: slices of strings of the call's own (no walk here).
-/
import Derived.Test.YtlbgblkoddlhnabDoorFmS
import Derived.Test.YtlbgblkoddlhnabDoorLine
import Derived.Test.YtlbgblkoddlhnabDoorLaidC
namespace Go.Proofs.YtlbgblkoddlhnabDoor
open Go.RowKit

theorem join_le (sep : List UInt8) (N : Nat) : ∀ xs : List (List UInt8), (∀ x ∈ xs, x.length ≤ N) → (Lib.join xs sep).length ≤ xs.length * (N + sep.length)
  | [], _ => by simp [Lib.join_nil]
  | x :: r, h => by
    rw [Lib.join_cons]
    have hx := h x (by simp)
    have ht : ∀ r : List (List UInt8), (∀ x ∈ r, x.length ≤ N) → (Lib.joinTail sep r).length ≤ r.length * (N + sep.length) := by
      intro r
      induction r with
      | nil => intro _; simp [Lib.joinTail]
      | cons y r ih =>
        intro hr
        have h1 := ih (fun z hz => hr z (by simp [hz]))
        have h2 := hr y (by simp)
        have e : Lib.joinTail sep (y :: r) = sep ++ y ++ Lib.joinTail sep r := by simp [Lib.joinTail]
        rw [e, List.length_append, List.length_append, List.length_cons, Nat.add_mul]
        omega
    have h3 := ht r (fun z hz => h z (by simp [hz]))
    rw [List.length_append, List.length_cons, Nat.add_mul]
    omega
theorem rowT_len {r : List Int} (h : ∀ x ∈ r, -3 ≤ x ∧ x ≤ 2) : (rowT r).length ≤ r.length * 3 := by
  have := join_le [44] 2 (r.map Lib.itoa) (fun x hx => by
    obtain ⟨y, hy, rfl⟩ := List.mem_map.1 hx
    exact itoa_short (h y hy))
  simpa [rowT] using this
theorem isC_mem {m : List (List Int)} (h : IsC m) {k : Nat} (hk : k < m.length) : ∀ x ∈ m.getD k [], -3 ≤ x ∧ x ≤ 2 := by
  intro x hx
  obtain ⟨j, hj, rfl⟩ := List.getElem_of_mem hx
  have hl := h.1 k hk
  have he := isC_entry h hk (j := j) (by omega)
  have : entry m k j = (m.getD k [])[j] := by unfold entry; simp [List.getD] at hj ⊢; simp [hj]
  rwa [this] at he
theorem fmtT_len {m : List (List Int)} (h : IsC m) : (fmtT m).length ≤ 1000 := by
  have h4 := h.2.2.2
  have := join_le [59] 12 (m.map rowT) (fun x hx => by
    obtain ⟨r, hr, rfl⟩ := List.mem_map.1 hx
    obtain ⟨k, hk, rfl⟩ := List.getElem_of_mem hr
    have h1 := rowT_len (isC_mem h hk)
    have h2 := h.1 k hk
    rw [getD_row m k hk] at h1 h2
    omega)
  rw [List.length_map] at this
  have h5 : m.length * (12 + [59].length) ≤ 4 * 13 := Nat.mul_le_mul h4 (by simp)
  unfold fmtT
  omega

def strVD (l : List ByteArray) : List Value := l.map Value.string
theorem strV_len (l : List ByteArray) : (strVD l).length = l.length := by simp [strVD]
theorem Tryd.infoStr : (Tryd.prog.info? 9).map (fun i => (i.zero, i.size, i.bytes)) = some (some (.string ⟨#[]⟩), 1, 16) := by kernel_rfl
theorem make_strs (n : Nat) (hn : n ≤ 1048576) (w : World) : ∃ w1, (Instr.makeSlice 32 (.int .i64 n) (.int .i64 n)).run Tryd.prog w = .ok (.slice (some ⟨w.heap.size, 0, none⟩) n n) w1 ∧
    w1.ownsRow w.heap.size 9 1 (.slice (some ⟨w.heap.size, 0, none⟩) n n) n (strVD (List.replicate n ⟨#[]⟩)) ∧ (∀ W C, C ≤ w.heap.size → Below C W w → Below C W w1) ∧ w.heap.size < w1.heap.size := by
  obtain ⟨i0, hi, hz0, hz1, hz2⟩ := info_parts Tryd.infoStr
  have h := run_make (P := Tryd.prog) w 32 9 i0 (.string ⟨#[]⟩) Tryd.underlying32 hi hz0 .i64 .i64 (n : Int) (n : Int) (by omega) (Int.le_refl _) (by rw [hz2]; omega) (by omega)
  rw [Int.toNat_natCast] at h
  refine ⟨_, h, ?_, fun W C hC hb => hb.alloc hC _, by simp⟩
  rw [hz1, Nat.mul_one]
  have e : (madeCells (Value.string ⟨#[]⟩).cells n).toList = strVD (List.replicate n ⟨#[]⟩) := by
    apply List.ext_getElem
    · simp [madeCells, strVD]
    · intro i h1 h2
      simp [madeCells, strVD, Value.cells, Nat.mod_one]
  have := World.ownsRow_lit (base := w.heap.size) (e := 9) (size := 1) w (madeCells (Value.string ⟨#[]⟩).cells n) n (Nat.le_refl _) (by unfold maxLen; omega) (by rw [← Array.length_toList, e]; simp [strVD])
  rw [e] at this
  exact this
/-- The first k strings are laid, the others are empty. -/
def laidS (L : List ByteArray) (n k : Nat) : List ByteArray := L.take k ++ List.replicate (n - k) ⟨#[]⟩
theorem laidS_len {L : List ByteArray} {n k : Nat} (hL : L.length = n) (hk : k ≤ n) : (laidS L n k).length = n := by simp [laidS, hL]; omega
theorem laidS_step {L : List ByteArray} {n k : Nat} (hL : L.length = n) (hk : k < n) : (strVD (laidS L n k)).set k (.string (L.getD k ⟨#[]⟩)) = strVD (laidS L n (k + 1)) := by
  have hg : L.getD k ⟨#[]⟩ = L[k] := by simp [List.getD, hL, hk]
  have h : (L.take k).length = k := by simp [hL]; omega
  unfold laidS strVD
  rw [← List.map_set, List.set_append_right _ _ (by omega), h, Nat.sub_self, hg, List.take_succ_eq_append_getElem (show k < L.length by omega)]
  obtain ⟨d, hd⟩ : ∃ d, n - k = d + 1 := ⟨n - k - 1, by omega⟩
  rw [hd, show n - (k + 1) = d by omega, List.replicate_succ, List.set_cons_zero, List.append_assoc]
  rfl
theorem laidS_zero (L : List ByteArray) (n : Nat) : laidS L n 0 = List.replicate n ⟨#[]⟩ := by simp [laidS]
theorem laidS_end {L : List ByteArray} {n : Nat} (hL : L.length = n) : laidS L n n = L := by simp [laidS, ← hL]

/-- A slice of strings of the call's own: what a store leaves. -/
theorem strs_put {A : Nat} {w : World} {g n : Nat} {L : List ByteArray} (h : w.ownsRow A 9 1 (.slice (some ⟨g, 0, none⟩) n n) n (strVD L)) {k : Nat} (hk : k < n) (s : ByteArray) :
    ∃ W', w.setCell ⟨g, k, none⟩ (.string s) = W' ∧ W'.ownsRow A 9 1 (.slice (some ⟨g, 0, none⟩) n n) n ((strVD L).set k (.string s)) ∧ (∃ c, w.cell? ⟨g, k, none⟩ = some c) ∧ w.frozen? ⟨g, k, none⟩ = false ∧
      (∀ W C, C ≤ A → Below C W w → Below C W W') ∧ W'.heap.size = w.heap.size ∧ w.grownBy W' (some g) := by
  obtain ⟨ho, hg⟩ := h.stored k (.string s)
  have hl := h.1
  refine ⟨_, rfl, ho, ⟨_, (h.cellAt k (by omega)).trans (List.getElem?_eq_getElem (by omega))⟩, h.frozenAt k, fun W C hC hb => hb.setCell (p := ⟨g, k, none⟩) (Nat.le_trans hC (h.lt g rfl).1) _, by simp, hg⟩
theorem strs_cell {A : Nat} {w : World} {g n : Nat} {L : List ByteArray} (h : w.ownsRow A 9 1 (.slice (some ⟨g, 0, none⟩) n n) n (strVD L)) : ∀ (j : Nat) x, L[j]? = some x → w.cell? ⟨g, 0 + j, none⟩ = some (.string x) := by
  intro j x hx
  have hl := h.1
  have hj : j < L.length := (List.getElem?_eq_some_iff.1 hx).1
  rw [strV_len] at hl
  rw [Nat.zero_add, h.cellAt j (by omega)]
  simp [strVD, hx]
theorem ownS_step {A : Nat} {w w' : World} {g n : Nat} {xs : List Value} (h : w.ownsRow A 9 1 (.slice (some ⟨g, 0, none⟩) n n) n xs) (hb : Below w.heap.size w w') : w'.ownsRow A 9 1 (.slice (some ⟨g, 0, none⟩) n n) n xs :=
  ownsRow_same h (fun g' hg => (h.lt g' hg).2) (SameIn.of_below hb (Nat.le_refl _))

def entS (r : List Int) : List ByteArray := r.map fun x => ⟨(Lib.itoa x).toArray⟩
def rowS (m : List (List Int)) : List ByteArray := m.map fun r => ⟨(rowT r).toArray⟩
theorem entS_join (r : List Int) : Lib.join ((entS r).map (·.data.toList)) [44] = rowT r := by simp [entS, rowT, List.map_map, Function.comp_def]
theorem rowS_join (m : List (List Int)) : Lib.join ((rowS m).map (·.data.toList)) [59] = fmtT m := by simp [rowS, fmtT, List.map_map, Function.comp_def]
theorem entS_get (m : List (List Int)) (k j : Nat) (n : Nat) (hr : (m.getD k []).length = n) (h : j < n) : (entS (m.getD k [])).getD j ⟨#[]⟩ = ⟨(Lib.itoa (entry m k j)).toArray⟩ := by
  unfold entry
  generalize m.getD k [] = r at *
  simp [entS, List.getD, show j < r.length by omega]
theorem rowS_get (m : List (List Int)) (k : Nat) (h : k < m.length) : (rowS m).getD k ⟨#[]⟩ = ⟨(rowT (m.getD k [])).toArray⟩ := by
  rw [getD_row m k h]
  simp [rowS, List.getD, h]

end Go.Proofs.YtlbgblkoddlhnabDoor
