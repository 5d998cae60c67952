/-
  SizeByName of the program: what the call returns.
-/
import Derived.Test.YtgpcacgafbhhdaaDoorSizS
import Derived.Test.YtgpcacgafbhhdaaDoorShelfS
namespace Go.Proofs.YtgpcacgafbhhdaaDoor
open Go.RowKit

theorem idx_find4 (c : UInt8) : ∀ (l : List UInt8), (Lib.indexByte l c = -1 ∧ c ∉ l) ∨ ∃ a b, l = a ++ c :: b ∧ c ∉ a ∧ Lib.indexByte l c = (a.length : Int)
  | [] => .inl ⟨rfl, by simp⟩
  | x :: l => by
    unfold Lib.indexByte
    by_cases hx : x = c
    · exact .inr ⟨[], l, by simp [hx], by simp, by simp [hx]⟩
    · rcases idx_find4 c l with ⟨h, hn⟩ | ⟨a, b, h, hn, hi⟩
      · exact .inl ⟨by simp [hx, h], by simp [hn, Ne.symm hx]⟩
      · exact .inr ⟨x :: a, b, by simp [h], by simp [hn, Ne.symm hx], by rw [hi]; simp [hx]⟩
/-- The pieces of strings.SplitN at one byte. -/
theorem split_cut (c : UInt8) : ∀ (k : Nat) (l : List UInt8), ((cutL c l).length ≤ k + 1 → Lib.splitK [c] 0 k l = cutL c l) ∧ (k + 1 < (cutL c l).length → (Lib.splitK [c] 0 k l).length = k + 1)
  | 0, l => by
    refine ⟨fun h => ?_, fun _ => rfl⟩
    rcases idx_find4 c l with ⟨_, hn⟩ | ⟨a, b, rfl, hn, _⟩
    · rw [cutL_free c l hn]; rfl
    · rw [cutL_at c a b hn] at h
      have := List.length_pos_iff.2 (cutL_ne c b)
      rw [List.length_cons] at h
      omega
  | k + 1, l => by
    rcases idx_find4 c l with ⟨hi, hn⟩ | ⟨a, b, rfl, hn, hi⟩
    · have e : Lib.splitK [c] 0 (k + 1) l = [l] := by
        unfold Lib.splitK
        rw [Lib.index_one, hi]; rfl
      rw [e, cutL_free c l hn]
      exact ⟨fun _ => rfl, fun h => by simp at h⟩
    · have e : Lib.splitK [c] 0 (k + 1) (a ++ c :: b) = a :: Lib.splitK [c] 0 k b := by
        conv => lhs; unfold Lib.splitK
        rw [Lib.index_one, hi]
        have hne : ((a.length : Int) == -1) = false := by rw [beq_eq_false_iff_ne]; omega
        simp [hne]
      rw [e, cutL_at c a b hn]
      obtain ⟨h1, h2⟩ := split_cut c k b
      refine ⟨fun h => by rw [h1 (by simpa using h)], fun h => by rw [List.length_cons, h2 (by simpa using h)]⟩
def pieceB (s : ByteArray) : List ByteArray := Lib.splitB ⟨#[120]⟩ 0 (min 5 (s.size + 1) - 1) s
theorem pieces_few (s : ByteArray) (h : (cutL 120 s.data.toList).length ≤ 4) : pieceB s = toB (cutL 120 s.data.toList) := by
  have h1 := Lib.splitB_data ⟨#[120]⟩ 0 (min 5 (s.size + 1) - 1) s
  have h2 := (split_cut 120 (min 5 (s.size + 1) - 1) s.data.toList).1 (by have := cutL_len 120 s.data.toList; simp at this; omega)
  have h3 : (pieceB s).map (·.data.toList) = cutL 120 s.data.toList := by
    unfold pieceB
    rw [h1]; exact h2
  rw [← h3]
  unfold toB
  rw [List.map_map]
  exact (List.map_id _).symm
theorem pieces_many (s : ByteArray) (h : 4 < (cutL 120 s.data.toList).length) : 4 < (pieceB s).length := by
  have hc := cutL_len 120 s.data.toList
  have hsz : s.data.toList.length = s.size := by simp
  have h1 := Lib.splitB_data ⟨#[120]⟩ 0 (min 5 (s.size + 1) - 1) s
  have hk : min 5 (s.size + 1) - 1 = 4 := by omega
  have hl : (pieceB s).length = (Lib.splitK [120] 0 4 s.data.toList).length := by
    have := congrArg List.length h1
    rw [List.length_map] at this
    unfold pieceB
    rw [this, hk]
  rw [hl]
  rcases Nat.lt_or_ge 5 (cutL 120 s.data.toList).length with h5 | h5
  · rw [(split_cut 120 4 s.data.toList).2 h5]; decide
  · rw [(split_cut 120 4 s.data.toList).1 h5]; exact h
theorem pieces_le (s : ByteArray) : (pieceB s).length ≤ min 5 (s.size + 1) := by
  have := Lib.splitB_length_le ⟨#[120]⟩ 0 (min 5 (s.size + 1) - 1) s
  unfold pieceB
  omega
theorem cellsOf_get {P : List ByteArray} {N j : Nat} {x : ByteArray} (h : P[j]? = some x) : (Lib.cellsOf P N)[j]? = some (.string x) := by
  unfold Lib.cellsOf
  have hj := (List.getElem?_eq_some_iff.1 h).1
  rw [List.getElem?_toArray, List.getElem?_append_left (by simpa using hj), List.getElem?_map, h]; rfl

set_option maxHeartbeats 2000000 in
set_option maxRecDepth 100000 in
theorem szi_any (s : ByteArray) (x : Int) (w : World) (hs : s.size ≤ 1048576) (hm : w.cell? ⟨1, 0, none⟩ = some (.int .i64 x)) : Calls Tryd.prog 14 #[.string s] w fun e w' => e = .returned (.int .i64 (sizeO s.data.toList)) ∧ Below w.heap.size w w' := by
  have hSP := Tryd.strings_SplitN s ⟨#[120]⟩ 5 x w (by omega) hm (Nat.le_refl _) (by omega) (by omega)
  rw [show Lib.splitB ⟨#[120]⟩ 0 (min 5 (s.size + 1) - 1) s = pieceB s from rfl, show ((5 : Nat) : Int) = 5 from rfl] at hSP
  have hO : sizeO s.data.toList = if (cutL 120 s.data.toList).length > 4 then 0 else prodN (cutL 120 s.data.toList) (cutL 120 s.data.toList).length := rfl
  have hpf := pieces_few s
  have hpm := pieces_many s
  have hST := prodN_next (cutL 120 s.data.toList)
  have hLE := prodN_le (cutL 120 s.data.toList)
  generalize sizeO s.data.toList = R at *
  generalize cutL 120 s.data.toList = P at *
  generalize pieceB s = PB at *
  generalize min 5 (s.size + 1) = N5 at *
  have hb0 : Below w.heap.size w (w.alloc (.cells (Lib.cellsOf PB N5) 9)) := (Below.refl _ _).alloc (Nat.le_refl _) _
  have hcell : ∀ j y, PB[j]? = some y → (w.alloc (.cells (Lib.cellsOf PB N5) 9)).cell? ⟨w.heap.size, j, none⟩ = some (.string y) := fun j y hy => by
    rw [cell_of_row _ w.heap.size j _ _ _ (MapKept.heap_alloc w _).1]; exact cellsOf_get hy
  have HSP := Lib.hid hSP; have HB0 := Lib.hid hb0; have HCELL := Lib.hid hcell
  clear hSP hb0 hcell hm
  generalize hw1 : w.alloc (.cells (Lib.cellsOf PB N5) 9) = w1 at *
  generalize hPL : PB.length = L at *
  have HPL := Lib.hid hPL; clear hPL
  by_cases h4 : P.length > 4
  · have hR : R = 0 := by rw [hO, if_pos h4]
    subst hR
    have hL4 := hpm h4
    have hL4' : decide (4 < L) = true := decide_eq_true hL4
    clear hO hpf hpm hST hLE
    go_enter Tryd.func14, Tryd.ntmps14
    go_wp2_with fail
    refine HSP.out.mono ?_
    rintro e w2 ⟨rfl, rfl⟩
    go_wp2_with fail
    go_ret
    exact ⟨rfl, HB0.out⟩
  · have hR : R = prodN P P.length := by rw [hO, if_neg h4]
    have hPB := hpf (by omega)
    have hLP : P.length = L := by rw [← HPL.out, hPB]; simp [toB]
    have HG : Hid (∀ j, j < L → PB[j]? = some ⟨(P.getD j []).toArray⟩) := Lib.hid (fun j h => by rw [← hLP] at h; rw [hPB]; simp [toB, h, List.getD])
    rw [hLP] at hR h4 hST hLE
    have hL4' : decide (4 < L) = false := decide_eq_false (by omega)
    have HST := Lib.hid hST; have HLE := Lib.hid hLE; have HR := Lib.hid hR
    clear hO hpf hpm hPB hST hLE hR hLP
    go_enter Tryd.func14, Tryd.ntmps14
    go_wp2_with fail
    refine HSP.out.mono ?_
    rintro e w2 ⟨rfl, rfl⟩
    go_wp2_with fail
    go_loopw [4, 14] (fun n i wr => ∃ t : Nat, t ≤ L ∧ i = .int .i64 t ∧ n = .int .i64 (prodN P t : Nat) ∧ wr = w2) (fun _ i _ => L - (intOf i).toNat)
    case atStart => exact ⟨0, Nat.zero_le _, rfl, rfl, rfl⟩
    case round =>
      obtain ⟨t, ht, rfl, rfl, rfl⟩ := hrel
      by_cases hlt : t < L
      · have hlt' : decide (t < L) = true := decide_eq_true hlt
        have hc := HCELL.out t _ (HG.out t hlt)
        have HSZ := Lib.hid (szp_any ⟨(P.getD t []).toArray⟩ wr)
        have HST' := Lib.hid (HST.out t hlt)
        have hle := HLE.out t (by omega)
        have hp4 : 1152 ^ t ≤ 1528823808 := by
          rcases (show t = 0 ∨ t = 1 ∨ t = 2 ∨ t = 3 by omega) with rfl | rfl | rfl | rfl <;> decide
        have hN : prodN P t ≤ 1528823808 := Nat.le_trans hle hp4
        have hz := sizeN_le (P.getD t [])
        simp only [List.toList_toArray] at HSZ
        clear hle hp4
        generalize P.getD t [] = pl at *
        generalize prodN P t = N at *
        generalize sizeN pl = z at *
        have hmul : N * z ≤ 1528823808 * 1152 := Nat.mul_le_mul hN hz
        have hcast : (N : Int) * (z : Int) = ((N * z : Nat) : Int) := (Int.natCast_mul N z).symm
        generalize N * z = q at *
        go_wp2_with (go_at_call 32; refine HSZ.out.mono ?_; rintro e w3 ⟨rfl, rfl⟩)
        exact ⟨⟨t + 1, by omega, by go_num, by rw [HST'.out], trivial⟩, by simp [intOf]; omega⟩
      · obtain rfl : t = L := by omega
        have hlt' : decide (t < t) = false := by simp
        rw [← HR.out]
        go_wp2_with fail
        go_ret
        exact ⟨rfl, HB0.out⟩
end Go.Proofs.YtgpcacgafbhhdaaDoor
