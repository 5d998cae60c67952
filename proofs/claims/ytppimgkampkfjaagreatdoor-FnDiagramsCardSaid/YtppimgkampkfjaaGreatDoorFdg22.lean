/-
  The table of shapes that the program builds in a map: what the call leaves.
  Chains, copies and changed entries: what the helpers of TypeCartan leave, in the model and in the program.
-/
import Derived.Test.YtppimgkampkfjaaGreatDoorFdg21
namespace Go.Proofs.YtppimgkampkfjaaGreatDoor
open Go.RowKit

def shTab : ShTab := [([65, 49], 1, []), ([65, 50], 2, []), ([65, 51], 3, []), ([65, 52], 4, []), ([66, 50], 2, [(1, 0, -2)]), ([66, 51], 3, [(2, 1, -2)]), ([66, 52], 4, [(3, 2, -2)]), ([67, 51], 3, [(1, 2, -2)]), ([67, 52], 4, [(2, 3, -2)]), ([68, 52], 4, [(2, 3, 0), (3, 2, 0), (1, 3, -1), (3, 1, -1)]), ([70, 52], 4, [(2, 1, -2)]), ([71, 50], 2, [(1, 0, -3)]), ([65, 49, 126], 2, [(0, 1, -2), (1, 0, -2)]), ([65, 50, 126], 3, [(0, 2, -1), (2, 0, -1)]), ([65, 51, 126], 4, [(0, 3, -1), (3, 0, -1)]), ([67, 50, 126], 3, [(1, 0, -2), (1, 2, -2)]), ([71, 50, 126], 3, [(2, 1, -3)])]
def shPre (k : Nat) : ShTab := shTab.take k
theorem fr0 : Fresh (shPre 0) [65, 49] := by decide
theorem fr1 : Fresh (shPre 1) [65, 50] := by decide
theorem fr2 : Fresh (shPre 2) [65, 51] := by decide
theorem fr3 : Fresh (shPre 3) [65, 52] := by decide
theorem fr4 : Fresh (shPre 4) [66, 50] := by decide
theorem fr5 : Fresh (shPre 5) [66, 51] := by decide
theorem fr6 : Fresh (shPre 6) [66, 52] := by decide
theorem fr7 : Fresh (shPre 7) [67, 51] := by decide
theorem fr8 : Fresh (shPre 8) [67, 52] := by decide
theorem fr9 : Fresh (shPre 9) [68, 52] := by decide
theorem fr10 : Fresh (shPre 10) [70, 52] := by decide
theorem fr11 : Fresh (shPre 11) [71, 50] := by decide
theorem fr12 : Fresh (shPre 12) [65, 49, 126] := by decide
theorem fr13 : Fresh (shPre 13) [65, 50, 126] := by decide
theorem fr14 : Fresh (shPre 14) [65, 51, 126] := by decide
theorem fr15 : Fresh (shPre 15) [67, 50, 126] := by decide
theorem fr16 : Fresh (shPre 16) [71, 50, 126] := by decide

set_option maxHeartbeats 4000000 in
set_option maxRecDepth 100000 in
theorem shapes_any (w : World) :
    Calls Tryz.prog 89 #[] w fun e w' => e = .returned (.map (some w.heap.size)) ∧ ShapesAt w' w.heap.size shTab ∧ Below w.heap.size w w' := by
  have h0 : ShapesAt (w.alloc (.map #[] 0)) w.heap.size (shPre 0) := ⟨#[], 0, (MapKept.heap_alloc w _).1, rfl, fun i hi => absurd hi (Nat.not_lt_zero i)⟩
  have hb0 : Below w.heap.size w (w.alloc (.map #[] 0)) := (Below.refl _ _).alloc (Nat.le_refl _) _
  have hz0 : w.heap.size < (w.alloc (.map #[] 0)).heap.size := by simp
  have hmm := @run_makeMap Tryz.prog
  have H0 := Lib.hid h0
  have HB0 := Lib.hid hb0
  have HZ0 := Lib.hid hz0
  clear h0 hb0 hz0
  obtain ⟨w1, hrun1, h1, hb1, hz1⟩ := insert_shape H0.out [65, 49] 1 1 rfl [] fr0 (chAt_nil _ _)
  have H1 : Hid (ShapesAt w1 w.heap.size (shPre 1)) := Lib.hid h1
  have HB1 := Lib.hid (hb1 w w.heap.size (Nat.le_refl _) HB0.out)
  have HZ1 : Hid (w.heap.size < w1.heap.size) := Lib.hid (by have := HZ0.out; rw [hz1]; exact this)
  clear h1 hb1 hz1 H0 HB0 HZ0
  obtain ⟨w2, hrun2, h2, hb2, hz2⟩ := insert_shape H1.out [65, 50] 2 2 rfl [] fr1 (chAt_nil _ _)
  have H2 : Hid (ShapesAt w2 w.heap.size (shPre 2)) := Lib.hid h2
  have HB2 := Lib.hid (hb2 w w.heap.size (Nat.le_refl _) HB1.out)
  have HZ2 : Hid (w.heap.size < w2.heap.size) := Lib.hid (by have := HZ1.out; rw [hz2]; exact this)
  clear h2 hb2 hz2 H1 HB1 HZ1
  obtain ⟨w3, hrun3, h3, hb3, hz3⟩ := insert_shape H2.out [65, 51] 3 3 rfl [] fr2 (chAt_nil _ _)
  have H3 : Hid (ShapesAt w3 w.heap.size (shPre 3)) := Lib.hid h3
  have HB3 := Lib.hid (hb3 w w.heap.size (Nat.le_refl _) HB2.out)
  have HZ3 : Hid (w.heap.size < w3.heap.size) := Lib.hid (by have := HZ2.out; rw [hz3]; exact this)
  clear h3 hb3 hz3 H2 HB2 HZ2
  obtain ⟨w4, hrun4, h4, hb4, hz4⟩ := insert_shape H3.out [65, 52] 4 4 rfl [] fr3 (chAt_nil _ _)
  have H4 : Hid (ShapesAt w4 w.heap.size (shPre 4)) := Lib.hid h4
  have HB4 := Lib.hid (hb4 w w.heap.size (Nat.le_refl _) HB3.out)
  have HZ4 : Hid (w.heap.size < w4.heap.size) := Lib.hid (by have := HZ3.out; rw [hz4]; exact this)
  clear h4 hb4 hz4 H3 HB3 HZ3
  have g5 : ChAt (w4.alloc (.cells #[.int .i64 (1), .int .i64 (0), .int .i64 (-2)] 80)) w.heap.size (.slice (some ⟨w4.heap.size, 0, none⟩) 1 1) [(1, 0, -2)] := chAt_new _ _ HZ4.out _ _ rfl _ rfl
  obtain ⟨w5, hrun5, h5, hb5, hz5⟩ := insert_shape (H4.out.alloc _) [66, 50] 2 2 rfl [(1, 0, -2)] fr4 g5
  have H5 : Hid (ShapesAt w5 w.heap.size (shPre 5)) := Lib.hid h5
  have HB5 := Lib.hid (hb5 w w.heap.size (Nat.le_refl _) (HB4.out.alloc (Nat.le_of_lt HZ4.out) _))
  have HZ5 : Hid (w.heap.size < w5.heap.size) := Lib.hid (by have := HZ4.out; rw [hz5]; simp; omega)
  clear h5 hb5 hz5 H4 HB4 HZ4 g5
  have g6 : ChAt (w5.alloc (.cells #[.int .i64 (2), .int .i64 (1), .int .i64 (-2)] 80)) w.heap.size (.slice (some ⟨w5.heap.size, 0, none⟩) 1 1) [(2, 1, -2)] := chAt_new _ _ HZ5.out _ _ rfl _ rfl
  obtain ⟨w6, hrun6, h6, hb6, hz6⟩ := insert_shape (H5.out.alloc _) [66, 51] 3 3 rfl [(2, 1, -2)] fr5 g6
  have H6 : Hid (ShapesAt w6 w.heap.size (shPre 6)) := Lib.hid h6
  have HB6 := Lib.hid (hb6 w w.heap.size (Nat.le_refl _) (HB5.out.alloc (Nat.le_of_lt HZ5.out) _))
  have HZ6 : Hid (w.heap.size < w6.heap.size) := Lib.hid (by have := HZ5.out; rw [hz6]; simp; omega)
  clear h6 hb6 hz6 H5 HB5 HZ5 g6
  have g7 : ChAt (w6.alloc (.cells #[.int .i64 (3), .int .i64 (2), .int .i64 (-2)] 80)) w.heap.size (.slice (some ⟨w6.heap.size, 0, none⟩) 1 1) [(3, 2, -2)] := chAt_new _ _ HZ6.out _ _ rfl _ rfl
  obtain ⟨w7, hrun7, h7, hb7, hz7⟩ := insert_shape (H6.out.alloc _) [66, 52] 4 4 rfl [(3, 2, -2)] fr6 g7
  have H7 : Hid (ShapesAt w7 w.heap.size (shPre 7)) := Lib.hid h7
  have HB7 := Lib.hid (hb7 w w.heap.size (Nat.le_refl _) (HB6.out.alloc (Nat.le_of_lt HZ6.out) _))
  have HZ7 : Hid (w.heap.size < w7.heap.size) := Lib.hid (by have := HZ6.out; rw [hz7]; simp; omega)
  clear h7 hb7 hz7 H6 HB6 HZ6 g7
  have g8 : ChAt (w7.alloc (.cells #[.int .i64 (1), .int .i64 (2), .int .i64 (-2)] 80)) w.heap.size (.slice (some ⟨w7.heap.size, 0, none⟩) 1 1) [(1, 2, -2)] := chAt_new _ _ HZ7.out _ _ rfl _ rfl
  obtain ⟨w8, hrun8, h8, hb8, hz8⟩ := insert_shape (H7.out.alloc _) [67, 51] 3 3 rfl [(1, 2, -2)] fr7 g8
  have H8 : Hid (ShapesAt w8 w.heap.size (shPre 8)) := Lib.hid h8
  have HB8 := Lib.hid (hb8 w w.heap.size (Nat.le_refl _) (HB7.out.alloc (Nat.le_of_lt HZ7.out) _))
  have HZ8 : Hid (w.heap.size < w8.heap.size) := Lib.hid (by have := HZ7.out; rw [hz8]; simp; omega)
  clear h8 hb8 hz8 H7 HB7 HZ7 g8
  have g9 : ChAt (w8.alloc (.cells #[.int .i64 (2), .int .i64 (3), .int .i64 (-2)] 80)) w.heap.size (.slice (some ⟨w8.heap.size, 0, none⟩) 1 1) [(2, 3, -2)] := chAt_new _ _ HZ8.out _ _ rfl _ rfl
  obtain ⟨w9, hrun9, h9, hb9, hz9⟩ := insert_shape (H8.out.alloc _) [67, 52] 4 4 rfl [(2, 3, -2)] fr8 g9
  have H9 : Hid (ShapesAt w9 w.heap.size (shPre 9)) := Lib.hid h9
  have HB9 := Lib.hid (hb9 w w.heap.size (Nat.le_refl _) (HB8.out.alloc (Nat.le_of_lt HZ8.out) _))
  have HZ9 : Hid (w.heap.size < w9.heap.size) := Lib.hid (by have := HZ8.out; rw [hz9]; simp; omega)
  clear h9 hb9 hz9 H8 HB8 HZ8 g9
  have g10 : ChAt (w9.alloc (.cells #[.int .i64 (2), .int .i64 (3), .int .i64 (0), .int .i64 (3), .int .i64 (2), .int .i64 (0), .int .i64 (1), .int .i64 (3), .int .i64 (-1), .int .i64 (3), .int .i64 (1), .int .i64 (-1)] 80)) w.heap.size (.slice (some ⟨w9.heap.size, 0, none⟩) 4 4) [(2, 3, 0), (3, 2, 0), (1, 3, -1), (3, 1, -1)] := chAt_new _ _ HZ9.out _ _ rfl _ rfl
  obtain ⟨w10, hrun10, h10, hb10, hz10⟩ := insert_shape (H9.out.alloc _) [68, 52] 4 4 rfl [(2, 3, 0), (3, 2, 0), (1, 3, -1), (3, 1, -1)] fr9 g10
  have H10 : Hid (ShapesAt w10 w.heap.size (shPre 10)) := Lib.hid h10
  have HB10 := Lib.hid (hb10 w w.heap.size (Nat.le_refl _) (HB9.out.alloc (Nat.le_of_lt HZ9.out) _))
  have HZ10 : Hid (w.heap.size < w10.heap.size) := Lib.hid (by have := HZ9.out; rw [hz10]; simp; omega)
  clear h10 hb10 hz10 H9 HB9 HZ9 g10
  have g11 : ChAt (w10.alloc (.cells #[.int .i64 (2), .int .i64 (1), .int .i64 (-2)] 80)) w.heap.size (.slice (some ⟨w10.heap.size, 0, none⟩) 1 1) [(2, 1, -2)] := chAt_new _ _ HZ10.out _ _ rfl _ rfl
  obtain ⟨w11, hrun11, h11, hb11, hz11⟩ := insert_shape (H10.out.alloc _) [70, 52] 4 4 rfl [(2, 1, -2)] fr10 g11
  have H11 : Hid (ShapesAt w11 w.heap.size (shPre 11)) := Lib.hid h11
  have HB11 := Lib.hid (hb11 w w.heap.size (Nat.le_refl _) (HB10.out.alloc (Nat.le_of_lt HZ10.out) _))
  have HZ11 : Hid (w.heap.size < w11.heap.size) := Lib.hid (by have := HZ10.out; rw [hz11]; simp; omega)
  clear h11 hb11 hz11 H10 HB10 HZ10 g11
  have g12 : ChAt (w11.alloc (.cells #[.int .i64 (1), .int .i64 (0), .int .i64 (-3)] 80)) w.heap.size (.slice (some ⟨w11.heap.size, 0, none⟩) 1 1) [(1, 0, -3)] := chAt_new _ _ HZ11.out _ _ rfl _ rfl
  obtain ⟨w12, hrun12, h12, hb12, hz12⟩ := insert_shape (H11.out.alloc _) [71, 50] 2 2 rfl [(1, 0, -3)] fr11 g12
  have H12 : Hid (ShapesAt w12 w.heap.size (shPre 12)) := Lib.hid h12
  have HB12 := Lib.hid (hb12 w w.heap.size (Nat.le_refl _) (HB11.out.alloc (Nat.le_of_lt HZ11.out) _))
  have HZ12 : Hid (w.heap.size < w12.heap.size) := Lib.hid (by have := HZ11.out; rw [hz12]; simp; omega)
  clear h12 hb12 hz12 H11 HB11 HZ11 g12
  have g13 : ChAt (w12.alloc (.cells #[.int .i64 (0), .int .i64 (1), .int .i64 (-2), .int .i64 (1), .int .i64 (0), .int .i64 (-2)] 80)) w.heap.size (.slice (some ⟨w12.heap.size, 0, none⟩) 2 2) [(0, 1, -2), (1, 0, -2)] := chAt_new _ _ HZ12.out _ _ rfl _ rfl
  obtain ⟨w13, hrun13, h13, hb13, hz13⟩ := insert_shape (H12.out.alloc _) [65, 49, 126] 2 2 rfl [(0, 1, -2), (1, 0, -2)] fr12 g13
  have H13 : Hid (ShapesAt w13 w.heap.size (shPre 13)) := Lib.hid h13
  have HB13 := Lib.hid (hb13 w w.heap.size (Nat.le_refl _) (HB12.out.alloc (Nat.le_of_lt HZ12.out) _))
  have HZ13 : Hid (w.heap.size < w13.heap.size) := Lib.hid (by have := HZ12.out; rw [hz13]; simp; omega)
  clear h13 hb13 hz13 H12 HB12 HZ12 g13
  have g14 : ChAt (w13.alloc (.cells #[.int .i64 (0), .int .i64 (2), .int .i64 (-1), .int .i64 (2), .int .i64 (0), .int .i64 (-1)] 80)) w.heap.size (.slice (some ⟨w13.heap.size, 0, none⟩) 2 2) [(0, 2, -1), (2, 0, -1)] := chAt_new _ _ HZ13.out _ _ rfl _ rfl
  obtain ⟨w14, hrun14, h14, hb14, hz14⟩ := insert_shape (H13.out.alloc _) [65, 50, 126] 3 3 rfl [(0, 2, -1), (2, 0, -1)] fr13 g14
  have H14 : Hid (ShapesAt w14 w.heap.size (shPre 14)) := Lib.hid h14
  have HB14 := Lib.hid (hb14 w w.heap.size (Nat.le_refl _) (HB13.out.alloc (Nat.le_of_lt HZ13.out) _))
  have HZ14 : Hid (w.heap.size < w14.heap.size) := Lib.hid (by have := HZ13.out; rw [hz14]; simp; omega)
  clear h14 hb14 hz14 H13 HB13 HZ13 g14
  have g15 : ChAt (w14.alloc (.cells #[.int .i64 (0), .int .i64 (3), .int .i64 (-1), .int .i64 (3), .int .i64 (0), .int .i64 (-1)] 80)) w.heap.size (.slice (some ⟨w14.heap.size, 0, none⟩) 2 2) [(0, 3, -1), (3, 0, -1)] := chAt_new _ _ HZ14.out _ _ rfl _ rfl
  obtain ⟨w15, hrun15, h15, hb15, hz15⟩ := insert_shape (H14.out.alloc _) [65, 51, 126] 4 4 rfl [(0, 3, -1), (3, 0, -1)] fr14 g15
  have H15 : Hid (ShapesAt w15 w.heap.size (shPre 15)) := Lib.hid h15
  have HB15 := Lib.hid (hb15 w w.heap.size (Nat.le_refl _) (HB14.out.alloc (Nat.le_of_lt HZ14.out) _))
  have HZ15 : Hid (w.heap.size < w15.heap.size) := Lib.hid (by have := HZ14.out; rw [hz15]; simp; omega)
  clear h15 hb15 hz15 H14 HB14 HZ14 g15
  have g16 : ChAt (w15.alloc (.cells #[.int .i64 (1), .int .i64 (0), .int .i64 (-2), .int .i64 (1), .int .i64 (2), .int .i64 (-2)] 80)) w.heap.size (.slice (some ⟨w15.heap.size, 0, none⟩) 2 2) [(1, 0, -2), (1, 2, -2)] := chAt_new _ _ HZ15.out _ _ rfl _ rfl
  obtain ⟨w16, hrun16, h16, hb16, hz16⟩ := insert_shape (H15.out.alloc _) [67, 50, 126] 3 3 rfl [(1, 0, -2), (1, 2, -2)] fr15 g16
  have H16 : Hid (ShapesAt w16 w.heap.size (shPre 16)) := Lib.hid h16
  have HB16 := Lib.hid (hb16 w w.heap.size (Nat.le_refl _) (HB15.out.alloc (Nat.le_of_lt HZ15.out) _))
  have HZ16 : Hid (w.heap.size < w16.heap.size) := Lib.hid (by have := HZ15.out; rw [hz16]; simp; omega)
  clear h16 hb16 hz16 H15 HB15 HZ15 g16
  have g17 : ChAt (w16.alloc (.cells #[.int .i64 (2), .int .i64 (1), .int .i64 (-3)] 80)) w.heap.size (.slice (some ⟨w16.heap.size, 0, none⟩) 1 1) [(2, 1, -3)] := chAt_new _ _ HZ16.out _ _ rfl _ rfl
  obtain ⟨w17, hrun17, h17, hb17, hz17⟩ := insert_shape (H16.out.alloc _) [71, 50, 126] 3 3 rfl [(2, 1, -3)] fr16 g17
  have H17 : Hid (ShapesAt w17 w.heap.size (shPre 17)) := Lib.hid h17
  have HB17 := Lib.hid (hb17 w w.heap.size (Nat.le_refl _) (HB16.out.alloc (Nat.le_of_lt HZ16.out) _))
  have HZ17 : Hid (w.heap.size < w17.heap.size) := Lib.hid (by have := HZ16.out; rw [hz17]; simp; omega)
  clear h17 hb17 hz17 H16 HB16 HZ16 g17
  go_enter Tryz.func89, Tryz.ntmps89
  go_wp2_with fail
  go_ret
  exact ⟨rfl, H17.out, HB17.out⟩
end Go.Proofs.YtppimgkampkfjaaGreatDoor
namespace Go.Proofs.YtppimgkampkfjaaGreatDoor
open Go.RowKit

theorem RowI.put {A B : Nat} {w : World} {g n cap : Nat} {l : List Int} (h : RowI A B w (.slice (some ⟨g, 0, none⟩) n cap) l) {i : Nat} (hi : i < l.length) (x : Int) :
    ∃ W', w.setCell ⟨g, i, none⟩ (.int .i64 x) = W' ∧ RowI A B W' (.slice (some ⟨g, 0, none⟩) n cap) (l.set i x) ∧ (∃ c, w.cell? ⟨g, i, none⟩ = some c) ∧ w.frozen? ⟨g, i, none⟩ = false ∧
      (∀ W C, C ≤ A → Below C W w → Below C W W') ∧ W'.heap.size = w.heap.size := by
  obtain ⟨h1, h2⟩ := h
  have hn : n = l.length := by
    rcases h1.2 with ⟨h, _⟩ | ⟨g', c', cur, h, _⟩
    · simp at h
    · injection h
  subst hn
  obtain ⟨ho, _⟩ := h1.stored i (.int .i64 x)
  rw [intsV_set] at ho
  refine ⟨_, rfl, ⟨by rw [List.length_set]; exact ho, h2⟩, ⟨_, (h1.cellAt i (by omega)).trans (List.getElem?_eq_getElem (by rw [intsV_len]; exact hi))⟩, h1.frozenAt i, fun W C hC hb => hb.setCell (p := ⟨g, i, none⟩) (Nat.le_trans hC (h1.lt g rfl).1) _, by simp⟩
theorem MatI.put2 {A B : Nat} {w : World} {g n cap : Nat} {m : List (List Int)} (h : MatI A B w (.slice (some ⟨g, 0, none⟩) n cap) m) {j c : Nat} (hj : j < m.length) (hc : c < (m.getD j []).length) (x : Int) :
    ∃ r rcap W', w.cell? ⟨g, j, none⟩ = some (.slice (some ⟨r, 0, none⟩) (m.getD j []).length rcap) ∧ (∃ y, w.cell? ⟨r, c, none⟩ = some y) ∧ w.frozen? ⟨r, c, none⟩ = false ∧ w.setCell ⟨r, c, none⟩ (.int .i64 x) = W' ∧
      MatI A B W' (.slice (some ⟨g, 0, none⟩) n cap) (set2 m j c x) ∧ (∀ W C, C ≤ A → Below C W w → Below C W W') ∧ W'.heap.size = w.heap.size := by
  obtain ⟨g', r, rcap, hg, h1, h2, h3, h4, h5, h6⟩ := h.put hj hc
  injection hg with hg
  injection hg with hg
  subst hg
  exact ⟨r, rcap, _, h1, ⟨_, h2⟩, h3, rfl, h6 x, fun W C hC hb => hb.setCell (p := ⟨r, c, none⟩) (Nat.le_trans hC h4) _, by simp⟩
theorem make_row (n : Nat) (hn : n ≤ 1048576) (w : World) : ∃ w1, (Instr.makeSlice 39 (.int .i64 n) (.int .i64 n)).run Tryz.prog w = .ok (.slice (some ⟨w.heap.size, 0, none⟩) n n) w1 ∧
    RowI w.heap.size w1.heap.size w1 (.slice (some ⟨w.heap.size, 0, none⟩) n n) (zerosR n) ∧ (∀ W C, C ≤ w.heap.size → Below C W w → Below C W w1) := by
  refine ⟨_, makeInts n hn w, row_made w n hn, fun W C hC hb => hb.alloc hC _⟩

def chainE (i j : Nat) : Int := if i = j then 2 else if i = j + 1 ∨ j = i + 1 then -1 else 0
def chainR (n i : Nat) : List Int := (List.range n).map fun j => chainE i j
def chainL (n : Nat) : List (List Int) := (List.range n).map fun i => chainR n i
theorem chainR_eq : ∀ n, n < 5 → ∀ i, i < n → chainR n i = (if i + 1 < n then (if 0 < i then ((zerosR n).set i 2).set (i - 1) (-1) else (zerosR n).set i 2).set (i + 1) (-1) else (if 0 < i then ((zerosR n).set i 2).set (i - 1) (-1) else (zerosR n).set i 2)) := by decide
theorem chainL_len (n : Nat) : (chainL n).length = n := by simp [chainL]
theorem chainL_step (n k : Nat) (h : k < n) : (chainL n).take k ++ [chainR n k] = (chainL n).take (k + 1) := by
  rw [List.take_succ_eq_append_getElem (by rw [chainL_len]; exact h)]; simp [chainL]
theorem chainL_end (n : Nat) : (chainL n).take n = chainL n := List.take_of_length_le (by rw [chainL_len]; exact Nat.le_refl _)

set_option maxHeartbeats 2000000 in
set_option maxRecDepth 100000 in
theorem chs_any (n : Nat) (w : World) (hn : n < 5) :
    Calls Tryz.prog 91 #[.int .i64 n] w (MakesM w (chainL n)) := by
  go_enter Tryz.func91, Tryz.ntmps91
  go_wp2_with fail
  go_loopw [3, 4] (fun o i wr => ∃ (k : Nat) (wq : World), wq = wr ∧ k ≤ n ∧ i = .int .i64 k ∧ MatI w.heap.size wq.heap.size wq o ((chainL n).take k) ∧ Below w.heap.size w wq) (fun _ i _ => n - (intOf i).toNat)
  case atStart => exact ⟨0, _, rfl, Nat.zero_le _, rfl, mat_empty w, (Below.refl _ _).alloc (Nat.le_refl _) _⟩
  case round =>
    obtain ⟨k, wq, rfl, hk, rfl, hM, hb⟩ := hrel
    have HM := Lib.hid hM; clear hM
    have hsq := hb.size
    have HB := Lib.hid hb; clear hb
    by_cases hlt : k < n
    · have hcr := chainR_eq n hn k hlt
      have HCR := Lib.hid hcr; clear hcr
      have HST := Lib.hid (chainL_step n k hlt)
      obtain ⟨w1, hmk, hr1, hb1⟩ := make_row n (by omega) wq
      obtain ⟨W1, he1, hr2, ⟨c1, hc1⟩, hf1, hb2, hz2⟩ := hr1.put (i := k) (by rw [zerosR_len]; exact hlt) 2
      have hlk : ((chainL n).take k).length ≤ 1048576 := by rw [List.length_take]; omega
      have HLK := Lib.hid hlk; clear hlk
      have hbW1 := hb2 wq wq.heap.size (Nat.le_refl _) (hb1 wq wq.heap.size (Nat.le_refl _) (Below.refl _ _))
      have hz1 : W1.heap.size = w1.heap.size := hz2
      clear hr1 hb1 hb2 hz2
      by_cases h0 : 0 < k
      · have HK0 : Hid (decide (0 < k) = true) := Lib.hid (decide_eq_true h0)
        obtain ⟨W2, he2, hr3, ⟨c2, hc2⟩, hf2, hb3, hz3⟩ := hr2.put (i := k - 1) (by rw [List.length_set, zerosR_len]; omega) (-1)
        have hbW2 := hb3 wq wq.heap.size (Nat.le_refl _) hbW1
        clear hb3 hbW1 hr2
        by_cases hk1 : k + 1 < n
        · obtain ⟨W3, he3, hr4, ⟨c3, hc3⟩, hf3, hb4, hz4⟩ := hr3.put (i := k + 1) (by rw [List.length_set, List.length_set, zerosR_len]; omega) (-1)
          have hbW3 := hb4 wq wq.heap.size (Nat.le_refl _) hbW2
          have hM3 := HM.out.same (SameIn.of_below hbW3 (Nat.le_refl _))
          have hrow : RowI wq.heap.size W3.heap.size W3 (.slice (some ⟨wq.heap.size, 0, none⟩) n n) (chainR n k) := by
            have := HCR.out; rw [if_pos hk1, if_pos h0] at this; rw [this, hz4, hz3, hz1]; exact hr4
          have hs3 := hbW3.size
          have HM3 := Lib.hid hM3
          have HR3 := Lib.hid hrow
          have HB3 := Lib.hid hbW3
          clear hM3 hrow hbW3 hbW2 hr3 hr4 hb4 hz1 hz3 hz4
          go_wp2_with (at_builtin; go_must (refine append_row HM3.out HR3.out hsq hs3 rfl rfl rfl rfl HLK.out ?_))
          intro v5 w5 hm5 hb5 hz5
          rw [HST.out] at hm5
          have HM5 := Lib.hid hm5
          have HB5 := Lib.hid (hb5 w w.heap.size (Nat.le_refl _) (HB.out.trans (HB3.out.mono hsq)))
          clear hb5 hz5 hm5
          go_wp2_with fail
          exact ⟨⟨k + 1, _, rfl, by omega, by go_num, HM5.out, HB5.out⟩, by simp [intOf]; omega⟩
        · have hM3 := HM.out.same (SameIn.of_below hbW2 (Nat.le_refl _))
          have hrow : RowI wq.heap.size W2.heap.size W2 (.slice (some ⟨wq.heap.size, 0, none⟩) n n) (chainR n k) := by
            have := HCR.out; rw [if_neg hk1, if_pos h0] at this; rw [this, hz3, hz1]; exact hr3
          have hs3 := hbW2.size
          have HM3 := Lib.hid hM3
          have HR3 := Lib.hid hrow
          have HB3 := Lib.hid hbW2
          clear hM3 hrow hbW2 hr3 hz1 hz3
          go_wp2_with (at_builtin; go_must (refine append_row HM3.out HR3.out hsq hs3 rfl rfl rfl rfl HLK.out ?_))
          intro v5 w5 hm5 hb5 hz5
          rw [HST.out] at hm5
          have HM5 := Lib.hid hm5
          have HB5 := Lib.hid (hb5 w w.heap.size (Nat.le_refl _) (HB.out.trans (HB3.out.mono hsq)))
          clear hb5 hz5 hm5
          go_wp2_with fail
          exact ⟨⟨k + 1, _, rfl, by omega, by go_num, HM5.out, HB5.out⟩, by simp [intOf]; omega⟩
      · obtain rfl : k = 0 := by omega
        by_cases hk1 : 0 + 1 < n
        · obtain ⟨W3, he3, hr4, ⟨c3, hc3⟩, hf3, hb4, hz4⟩ := hr2.put (i := 1) (by rw [List.length_set, zerosR_len]; omega) (-1)
          have hbW3 := hb4 wq wq.heap.size (Nat.le_refl _) hbW1
          have hM3 := HM.out.same (SameIn.of_below hbW3 (Nat.le_refl _))
          have hrow : RowI wq.heap.size W3.heap.size W3 (.slice (some ⟨wq.heap.size, 0, none⟩) n n) (chainR n 0) := by
            have := HCR.out; rw [if_pos hk1, if_neg h0] at this; rw [this, hz4, hz1]; exact hr4
          have hs3 := hbW3.size
          have HM3 := Lib.hid hM3
          have HR3 := Lib.hid hrow
          have HB3 := Lib.hid hbW3
          clear hM3 hrow hbW3 hbW1 hr2 hr4 hb4 hz1 hz4
          go_wp2_with (at_builtin; go_must (refine append_row HM3.out HR3.out hsq hs3 rfl rfl rfl rfl HLK.out ?_))
          intro v5 w5 hm5 hb5 hz5
          have hm6 : MatI w.heap.size w5.heap.size w5 v5 ((chainL n).take (0 + 1)) := by rw [← HST.out]; exact hm5
          have HM5 := Lib.hid hm6
          clear hm6
          have HB5 := Lib.hid (hb5 w w.heap.size (Nat.le_refl _) (HB.out.trans (HB3.out.mono hsq)))
          clear hb5 hz5 hm5
          go_wp2_with fail
          exact ⟨⟨0 + 1, _, rfl, by omega, by go_num, HM5.out, HB5.out⟩, by simp [intOf]; omega⟩
        · have hM3 := HM.out.same (SameIn.of_below hbW1 (Nat.le_refl _))
          have hrow : RowI wq.heap.size W1.heap.size W1 (.slice (some ⟨wq.heap.size, 0, none⟩) n n) (chainR n 0) := by
            have := HCR.out; rw [if_neg hk1, if_neg h0] at this; rw [this, hz1]; exact hr2
          have hs3 := hbW1.size
          have HM3 := Lib.hid hM3
          have HR3 := Lib.hid hrow
          have HB3 := Lib.hid hbW1
          clear hM3 hrow hbW1 hr2 hz1
          go_wp2_with (at_builtin; go_must (refine append_row HM3.out HR3.out hsq hs3 rfl rfl rfl rfl HLK.out ?_))
          intro v5 w5 hm5 hb5 hz5
          have hm6 : MatI w.heap.size w5.heap.size w5 v5 ((chainL n).take (0 + 1)) := by rw [← HST.out]; exact hm5
          have HM5 := Lib.hid hm6
          clear hm6
          have HB5 := Lib.hid (hb5 w w.heap.size (Nat.le_refl _) (HB.out.trans (HB3.out.mono hsq)))
          clear hb5 hz5 hm5
          go_wp2_with fail
          exact ⟨⟨0 + 1, _, rfl, by omega, by go_num, HM5.out, HB5.out⟩, by simp [intOf]; omega⟩
    · obtain rfl : k = n := by omega
      go_wp2_with fail
      go_ret
      have hM := HM.out
      rw [chainL_end] at hM
      exact ⟨_, rfl, ⟨hM, Nat.le_refl _⟩, HB.out⟩

/-! ### A copy, and two entries changed -/
theorem take_snocL (m : List (List Int)) (k : Nat) (h : k < m.length) : m.take k ++ [m.getD k []] = m.take (k + 1) := by
  rw [getD_row m k h, List.take_succ_eq_append_getElem h]

set_option maxHeartbeats 2000000 in
set_option maxRecDepth 100000 in
theorem cps_any (B : Nat) (v : Value) (m : List (List Int)) (w : World) (h : MatB B w v m) (hB : B ≤ w.heap.size) (hs : Small m) (hne : ∀ k, k < m.length → m.getD k [] ≠ []) :
    Calls Tryz.prog 95 #[v] w (MakesM w m) := by
  obtain ⟨a, cap, rfl⟩ := h.slice
  have HR := Lib.hid h; clear h
  have hl := hs.1
  have HSM := Lib.hid hs; clear hs
  have HNE := Lib.hid hne; clear hne
  have HALL := Lib.hid (List.take_length (l := m))
  have HSN := Lib.hid (take_snocL m)
  generalize hn : m.length = n at *
  have HN := Lib.hid hn; clear hn
  go_enter Tryz.func95, Tryz.ntmps95
  go_wp2_with fail
  go_loopw [3, 4] (fun o i wr => ∃ (k : Nat) (wq : World), wq = wr ∧ k ≤ n ∧ i = .int .i64 k ∧ MatI w.heap.size wq.heap.size wq o (m.take k) ∧ Below w.heap.size w wq) (fun _ i _ => n - (intOf i).toNat)
  case atStart => exact ⟨0, _, rfl, Nat.zero_le _, rfl, mat_empty w, (Below.refl _ _).alloc (Nat.le_refl _) _⟩
  case round =>
    obtain ⟨k, wq, rfl, hk, rfl, hM, hb⟩ := hrel
    have HM := Lib.hid hM; clear hM
    have HB := Lib.hid hb
    have hsq := hb.size
    clear hb
    by_cases hlt : k < n
    · have hkl : k < m.length := by rw [HN.out]; exact hlt
      obtain ⟨b, off, ra, rcap, rfl, hbB, hcell, hrow⟩ := (HR.out.below HB.out hB).rowAt hlt hkl
      have hTK := HSN.out k hlt
      have hne := HNE.out k hlt
      have hlk : (m.take k).length ≤ 1048576 := by rw [List.length_take]; omega
      have hrl : (m.getD k []).length ≤ 1048576 := by rw [getD_row m k hkl]; exact HSM.out.2 k hkl
      generalize m.getD k [] = r at *
      have HTK := Lib.hid hTK
      have HNER := Lib.hid hne
      have HLK := Lib.hid hlk
      have hrow1 : RowB B (wq.alloc (.cells #[] 3)) (.slice ra r.length rcap) r := hrow.below ((Below.refl w.heap.size wq).alloc hsq _) hB
      have HROW1 := Lib.hid hrow1
      have hq1 : wq.heap.size ≤ (wq.alloc (.cells #[] 3)).heap.size := by simp
      have hcell' : (wq.alloc (.cells #[] 3)).cell? ⟨b, off + k, none⟩ = some (.slice ra r.length rcap) := by
        rw [World.cell?_alloc_past _ _ _ (by show b < _; omega)]; exact hcell
      clear hTK hne hlk hrow1 hrow
      generalize hrn : r.length = rn at *
      have HRN := Lib.hid hrn; clear hrn
      have hlen2 : ([] : List Int).length + r.length ≤ 4194304 := by rw [HRN.out]; simp; omega
      have HLEN2 := Lib.hid hlen2
      clear hlen2 hrl
      go_wp2_with (at_builtin; go_must (refine append_ints (row_empty wq) hq1 HROW1.out HNER.out HLEN2.out rfl rfl rfl rfl ?_))
      intro v3 w3 hr3 hb3 hz3
      have hr3 : RowI wq.heap.size w3.heap.size w3 v3 r := by simpa using hr3
      have hb3' := hb3 wq wq.heap.size (Nat.le_refl _) ((Below.refl _ _).alloc (Nat.le_refl _) _)
      have HB3 := Lib.hid hb3'
      have hs3 := hb3'.size
      obtain ⟨xa, xn, xc, rfl⟩ := hr3.slice3
      have HR3 := Lib.hid hr3
      have HM3 := Lib.hid ((HM.out.same (SameIn.of_below hb3' (Nat.le_refl _))))
      clear hb3 hz3 hr3 hb3' hcell hcell'
      go_wp2_with (at_builtin; go_must (refine append_row HM3.out HR3.out hsq hs3 rfl rfl rfl rfl HLK.out ?_))
      intro v5 w5 hm5 hb5 hz5
      have hm6 : MatI w.heap.size w5.heap.size w5 v5 (m.take (k + 1)) := by rw [← HTK.out]; exact hm5
      have HM5 := Lib.hid hm6
      have HB5 := Lib.hid (hb5 w w.heap.size (Nat.le_refl _) (HB.out.trans (HB3.out.mono hsq)))
      clear hb5 hz5 hm5 hm6
      go_wp2_with fail
      exact ⟨⟨k + 1, _, rfl, by omega, by go_num, HM5.out, HB5.out⟩, by simp [intOf]; omega⟩
    · obtain rfl : k = n := by omega
      go_wp2_with fail
      go_ret
      have hM := HM.out
      rw [HALL.out] at hM
      exact ⟨_, rfl, ⟨hM, Nat.le_refl _⟩, HB.out⟩

theorem set2_getLen (m : List (List Int)) (j c : Nat) (x : Int) (i : Nat) : ((set2 m j c x).getD i []).length = (m.getD i []).length := by
  unfold set2 List.getD
  by_cases h : j = i
  · subst h
    by_cases hj : j < m.length
    · simp [List.getElem?_set, hj]
    · rw [List.set_eq_of_length_le (by omega)]
  · rw [List.getElem?_set, if_neg h]

set_option maxHeartbeats 2000000 in
set_option maxRecDepth 100000 in
theorem sets_any (B : Nat) (v : Value) (m : List (List Int)) (i j : Nat) (x y : Int) (w : World) (h : MatB B w v m) (hB : B ≤ w.heap.size) (hs : Small m) (hrows : Rows0 m m.length m.length) (hi : i < m.length) (hj : j < m.length) :
    Calls Tryz.prog 92 #[v, .int .i64 i, .int .i64 j, .int .i64 x, .int .i64 y] w (MakesM w (set2 (set2 m i j x) j i y)) := by
  have hne : ∀ k, k < m.length → m.getD k [] ≠ [] := fun k hk => ne_nil_of_len (by rw [hrows k hk]; omega)
  have HC := Lib.hid (cps_any B v m w h hB hs hne)
  have hl := hs.1
  obtain ⟨a, cap, rfl⟩ := h.slice
  clear h hne
  have HRW := Lib.hid hrows; clear hrows
  generalize hn : m.length = n at *
  go_enter Tryz.func92, Tryz.ntmps92
  have HN := Lib.hid hn; clear hn
  go_wp2_with fail
  refine HC.out.mono ?_
  rintro e w1 ⟨x1, rfl, ⟨hm1, _⟩, hb1⟩
  obtain ⟨ra, rn, rcap0, rfl⟩ : ∃ ra rn rcap, x1 = .slice ra rn rcap := by obtain ⟨ra, rc, h⟩ := hm1.slice; exact ⟨ra, _, rc, h⟩
  have hrn : rn = n := by
    obtain ⟨ra', rc', h⟩ := hm1.slice
    injection h with _ h _
    rw [h]; exact HN.out
  subst hrn
  obtain ⟨g, rfl⟩ : ∃ g, ra = some ⟨g, 0, none⟩ := by
    obtain ⟨g, _, _, h, _⟩ := hm1.put (j := i) (c := j) (by rw [HN.out]; exact hi) (by rw [HRW.out i hi]; exact hj)
    exact ⟨g, h⟩
  obtain ⟨r1, rc1, W1, c1, ⟨y1, c2⟩, f1, e1, hm2, hb2, hz2⟩ := hm1.put2 (j := i) (c := j) (by rw [HN.out]; exact hi) (by rw [HRW.out i hi]; exact hj) x
  obtain ⟨r2, rc2, W2, c3, ⟨y2, c4⟩, f2, e2, hm3, hb3, hz3⟩ := hm2.put2 (j := j) (c := i) (by rw [set2_len, HN.out]; exact hj) (by rw [set2_getLen, HRW.out j hj]; exact hi) y
  rw [HRW.out i hi] at c1
  rw [set2_getLen, HRW.out j hj] at c3
  have hbW := hb3 w w.heap.size (Nat.le_refl _) (hb2 w w.heap.size (Nat.le_refl _) hb1)
  have hM : MatI w.heap.size W2.heap.size W2 (.slice (some ⟨g, 0, none⟩) rn rcap0) (set2 (set2 m i j x) j i y) := by rw [hz3, hz2]; exact hm3
  have HM := Lib.hid hM
  have HB := Lib.hid hbW
  clear hM hbW hb3 hb2 hb1 hm1 hm2 hm3 hz2 hz3
  go_wp2_with fail
  go_ret
  exact ⟨_, rfl, ⟨HM.out, Nat.le_refl _⟩, HB.out⟩

/-! ### The program's chain -/
def chS (n k : Nat) : List (List Int) := (List.range n).map fun r => (List.range n).map fun c => if r < k ∧ c < k then chainE r c else 0
theorem chS_zero : ∀ n, n < 5 → chS n 0 = zeros n := by decide
theorem chS_end : ∀ n, n < 5 → chS n n = chainL n := by decide
theorem chS_first : ∀ n, n < 5 → 0 < n → set2 (chS n 0) 0 0 2 = chS n 1 := by decide
theorem chS_next : ∀ n, n < 5 → ∀ k, k < n → 0 < k → set2 (set2 (set2 (chS n k) k k 2) k (k - 1) (-1)) (k - 1) k (-1) = chS n (k + 1) := by decide
theorem chS_len (n k : Nat) : (chS n k).length = n := by simp [chS]
theorem chS_row (n k i : Nat) (h : i < n) : ((chS n k).getD i []).length = n := by simp [chS, List.getD, h]

set_option maxHeartbeats 2000000 in
set_option maxRecDepth 100000 in
theorem chi_any (n : Nat) (w : World) (hn : n < 5) :
    Calls Tryz.prog 90 #[.int .i64 n] w (MakesM w (chainL n)) := by
  go_enter Tryz.func90, Tryz.ntmps90
  go_wp2_with fail
  refine (zm_any n w (by omega)).mono ?_
  rintro e w1 ⟨x1, rfl, ⟨hm1, _⟩, hb1⟩
  have hzl := zeros_len n
  obtain ⟨ra, rcap0, rfl⟩ := hm1.slice
  rw [hzl] at hm1 ⊢
  rw [← chS_zero n hn] at hm1
  have HM := Lib.hid hm1
  have HB := Lib.hid hb1
  clear hm1 hb1 hzl
  go_wp2_with fail
  go_loopw [9] (fun i wr => ∃ (k : Nat) (wq : World), wq = wr ∧ k ≤ n ∧ i = .int .i64 k ∧ MatI w.heap.size wq.heap.size wq (.slice ra n rcap0) (chS n k) ∧ Below w.heap.size w wq) (fun i _ => n - (intOf i).toNat)
  case atStart => exact ⟨0, _, rfl, Nat.zero_le _, rfl, HM.out, HB.out⟩
  case round =>
    clear HM HB
    obtain ⟨k, wq, rfl, hk, rfl, hM, hb⟩ := hrel
    by_cases hlt : k < n
    · obtain ⟨g, rfl⟩ : ∃ g, ra = some ⟨g, 0, none⟩ := by
        obtain ⟨g, _, _, h, _⟩ := hM.put (j := k) (c := k) (by rw [chS_len]; exact hlt) (by rw [chS_row n k k hlt]; exact hlt)
        exact ⟨g, h⟩
      obtain ⟨r1, rc1, W1, c1, ⟨y1, d1⟩, f1, e1, hm1, hb1, hz1⟩ := hM.put2 (j := k) (c := k) (by rw [chS_len]; exact hlt) (by rw [chS_row n k k hlt]; exact hlt) 2
      rw [chS_row n k k hlt] at c1
      have hbW1 := hb1 w w.heap.size (Nat.le_refl _) hb
      clear hb1
      by_cases h0 : 0 < k
      · obtain ⟨r2, rc2, W2, c2, ⟨y2, d2⟩, f2, e2, hm2, hb2, hz2⟩ := hm1.put2 (j := k) (c := k - 1) (by rw [set2_len, chS_len]; exact hlt) (by rw [set2_getLen, chS_row n k k hlt]; omega) (-1)
        obtain ⟨r3, rc3, W3, c3, ⟨y3, d3⟩, f3, e3, hm3, hb3, hz3⟩ := hm2.put2 (j := k - 1) (c := k) (by rw [set2_len, set2_len, chS_len]; omega) (by rw [set2_getLen, set2_getLen, chS_row n k (k - 1) (by omega)]; exact hlt) (-1)
        rw [set2_getLen, chS_row n k k hlt] at c2
        rw [set2_getLen, set2_getLen, chS_row n k (k - 1) (by omega)] at c3
        rw [chS_next n hn k hlt h0] at hm3
        have hM3 : MatI w.heap.size W3.heap.size W3 (.slice (some ⟨g, 0, none⟩) n rcap0) (chS n (k + 1)) := by rw [hz3, hz2, hz1]; exact hm3
        have HM3 := Lib.hid hM3
        have HB3 := Lib.hid (hb3 w w.heap.size (Nat.le_refl _) (hb2 w w.heap.size (Nat.le_refl _) hbW1))
        clear hM3 hb3 hb2 hbW1 hm1 hm2 hm3 hz1 hz2 hz3 hM hb
        go_wp2_with fail
        exact ⟨⟨k + 1, _, rfl, by omega, by go_num, HM3.out, HB3.out⟩, by simp [intOf]; omega⟩
      · obtain rfl : k = 0 := by omega
        rw [chS_first n hn hlt] at hm1
        have hM3 : MatI w.heap.size W1.heap.size W1 (.slice (some ⟨g, 0, none⟩) n rcap0) (chS n 1) := by rw [hz1]; exact hm1
        have HM3 := Lib.hid hM3
        have HB3 := Lib.hid hbW1
        clear hM3 hbW1 hm1 hz1 hM hb
        go_wp2_with fail
        exact ⟨⟨0 + 1, _, rfl, by omega, by go_num, HM3.out, HB3.out⟩, by simp [intOf]; omega⟩
    · obtain rfl : k = n := by omega
      rw [chS_end k hn] at hM
      have HM := Lib.hid hM
      have HB := Lib.hid hb
      clear hM hb
      go_wp2_with fail
      go_ret
      exact ⟨_, rfl, ⟨HM.out, Nat.le_refl _⟩, HB.out⟩
end Go.Proofs.YtppimgkampkfjaaGreatDoor
