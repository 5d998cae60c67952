/-
  The draws of matrices: what the calls leave, whatever the code.
-/
import Derived.Test.YtfjeghalkmkgoaaGreatDoorFW03
import Derived.Test.YtfjeghalkmkgoaaGreatDoorFW12
namespace Go.Proofs.YtfjeghalkmkgoaaGreatDoor
open Go.RowKit

/-! ### Draws and memory -/
theorem DrTo.of_below {B C : Nat} {cv : Value} {len : Nat} {w w' : World} (h : Dr B C cv len w) (hb : Below w.heap.size w w') : DrTo B C cv len w w' :=
  ⟨h.below hb h.lt, hb.os, hb.tape, hb.output, hb.size, fun k hk _ => hb.block k hk⟩
theorem DrTo.refl {B C : Nat} {cv : Value} {len : Nat} {w : World} (h : Dr B C cv len w) : DrTo B C cv len w w := ⟨h, World.grownBy.refl _ _⟩
theorem OwnM.drawn {A D B C : Nat} {cv x : Value} {len : Nat} {w w' : World} {m : List (List Int)} (h : OwnM A D w x m) (hC : C < A) (hd : DrTo B C cv len w w') : OwnM A D w' x m :=
  ⟨h.1.same fun k h1 h2 => hd.2.block k (Nat.lt_of_lt_of_le h2 h.2) (fun e => by injection e with e; omega), Nat.le_trans h.2 hd.2.size⟩
/-- What a call that draws a matrix leaves. -/
def DrM (B C : Nat) (cv : Value) (len : Nat) (P : List (List Int) → Prop) (w : World) (e : Ending) (w' : World) : Prop :=
  ∃ x m, e = .returned x ∧ DrTo B C cv len w w' ∧ OwnM w.heap.size w'.heap.size w' x m ∧ P m

theorem once_any (B C : Nat) (w : World) (cv : Value) (len n : Nat) (h1 : 1 ≤ n) (h2 : n ≤ 1000) (hd : Dr B C cv len w) :
    Calls Tryz.prog 44 #[.pointer (some ⟨C, 0, none⟩), .int .i64 n] w fun e w' => ∃ b, e = .returned (.bool b) ∧ DrTo B C cv len w w' := by
  have HD := Lib.hid hd; clear hd
  go_enter Tryz.func44, Tryz.ntmps44
  go_wp2_with fail
  refine (below_any B C _ cv len n h1 (by omega) HD.out).mono ?_
  rintro e w1 ⟨r, hr, rfl, hd1⟩
  have HD1 := Lib.hid hd1; clear hd1
  go_wp2_with fail
  go_ret
  exact ⟨_, rfl, HD1.out⟩
def strsD (L : List (List UInt8)) : List Value := L.map fun l => .string ⟨l.toArray⟩
theorem picks_any (B C : Nat) (w : World) (cv : Value) (len : Nat) (G : Nat) (L : List (List UInt8)) (m : Nat) (hm : L.length = m) (h1 : 1 ≤ m) (h2 : m ≤ 1000)
    (hG : w.heap[G]? = some (.cells (strsD L).toArray 9 (0, 0))) (hne : G ≠ C) (hd : Dr B C cv len w) :
    Calls Tryz.prog 82 #[.pointer (some ⟨C, 0, none⟩), .slice (some ⟨G, 0, none⟩) m m] w fun e w' => ∃ l, l ∈ L ∧ e = .returned (.string ⟨l.toArray⟩) ∧ DrTo B C cv len w w' := by
  have HD := Lib.hid hd; clear hd
  have HG := Lib.hid hG; clear hG
  go_enter Tryz.func82, Tryz.ntmps82
  go_wp2_with fail
  refine (below_any B C _ cv len m h1 (by omega) HD.out).mono ?_
  rintro e w1 ⟨r, hr, rfl, hd1⟩
  have hrl : r < L.length := by omega
  have hcell : w1.cell? ⟨G, r, none⟩ = some (.string ⟨(L[r]).toArray⟩) := by
    have : w.cell? ⟨G, r, none⟩ = some (.string ⟨(L[r]).toArray⟩) := by
      rw [cell_of_row w G r _ _ _ HG.out]
      simp [strsD, hrl]
    exact hd1.2.cell this (by simp; omega)
  have HIN := Lib.hid (List.getElem_mem hrl)
  have HD1 := Lib.hid hd1; clear hd1
  generalize L[r] = l at *
  go_wp2_with fail
  go_ret
  exact ⟨l, HIN.out, rfl, HD1.out⟩

/-! ### The named matrices are valid -/
instance (m : List (List Int)) (i j : Nat) : Decidable (okC m i j) := by unfold okC; infer_instance
def IsD (m : List (List Int)) : Prop := (∀ i, i < m.length → (m.getD i []).length = m.length) ∧ (∀ i, i < m.length → ∀ j, j < m.length → okC m i j) ∧ 1 ≤ m.length ∧ m.length ≤ 4
instance (m : List (List Int)) : Decidable (IsD m) := by unfold IsD; infer_instance
theorem isD_isC {m : List (List Int)} (h : IsD m) : IsC m := ⟨h.1, fun i j hi hj => h.2.1 i hi j hj, h.2.2⟩
def Sq (m : List (List Int)) : Prop := Rows0 m m.length m.length ∧ 1 ≤ m.length ∧ m.length ≤ 4
theorem isC_sq {m : List (List Int)} (h : IsC m) : Sq m := ⟨h.1, h.2.2⟩
def finL : List (List UInt8) := [[65, 49], [65, 50], [65, 50], [65, 51], [65, 51], [66, 50], [66, 50], [66, 51], [67, 51], [71, 50]]
def infL : List (List UInt8) := [[65, 49, 126], [65, 50, 126], [67, 50, 126], [71, 50, 126], [65, 51, 126], [68, 52], [65, 52]]
theorem fin_ok : ∀ l ∈ finL, IsD (typeM l) := by decide +kernel
theorem inf_ok : ∀ l ∈ infL, IsD (typeM l) := by decide +kernel
theorem a1_ok : IsD (typeM [65, 49]) ∧ (typeM [65, 49]).length = 1 := by decide +kernel
theorem sq_small {m : List (List Int)} (h : Sq m) : Small m := ⟨by have := h.2; omega, fun j hj => by
  have h1 := h.1 j hj
  rw [getD_row m j hj] at h1
  have := h.2
  omega⟩
theorem sq_set2 {m : List (List Int)} (h : Sq m) (i j : Nat) (x : Int) : Sq (set2 m i j x) := by
  have hl := set2_len m i j x
  refine ⟨fun k hk => ?_, by rw [hl]; exact h.2.1, by rw [hl]; exact h.2.2⟩
  rw [hl] at hk ⊢
  have h1 := h.1 k hk
  unfold set2
  by_cases e : i = k
  · subst e
    simp [List.getD, hk] at h1 ⊢
    exact h1
  · have : (m.set i ((m.getD i []).set j x)).getD k [] = m.getD k [] := by simp [List.getD, e]
    rw [this]; exact h1
theorem sq_join {a b : List (List Int)} (h : JoinOk a b) : Sq (joinM a b) := by
  rw [joinM_yes h]
  have hl := joinL_len a b
  obtain ⟨ha, hb, h4⟩ := h
  refine ⟨fun k hk => ?_, by rw [hl]; have := ha.2.2.1; omega, by rw [hl]; exact h4⟩
  rw [hl] at hk ⊢
  unfold joinL
  by_cases hk' : k < a.length
  · have h1 := ha.1 k hk'
    rw [getD_row a k hk'] at h1
    rw [List.getD_eq_getElem?_getD, List.getElem?_append_left (by simpa using hk')]
    simp [hk', h1]
  · have hkb : k - a.length < b.length := by omega
    have h1 := hb.1 (k - a.length) hkb
    rw [getD_row b _ hkb] at h1
    rw [List.getD_eq_getElem?_getD, List.getElem?_append_right (by simp; omega)]
    simp [hkb, h1]

set_option maxHeartbeats 2000000 in
set_option maxRecDepth 100000 in
theorem fin_any (B C : Nat) (w : World) (cv : Value) (len : Nat) (hd : Dr B C cv len w) :
    Calls Tryz.prog 71 #[.pointer (some ⟨C, 0, none⟩)] w (DrM B C cv len Sq w) := by
  have hCw := hd.lt
  have HG := Lib.hid (show (w.alloc (.cells (strsD finL).toArray 9)).heap[w.heap.size]? = some (.cells (strsD finL).toArray 9 (0, 0)) from (MapKept.heap_alloc w _).1)
  have HD0 := Lib.hid (hd.alloc (.cells (strsD finL).toArray 9))
  have hg0 : w.grownBy (w.alloc (.cells (strsD finL).toArray 9)) (some C) := World.grownBy_alloc _ _ _
  have HG0 := Lib.hid hg0
  have hlit : (strsD finL).toArray = #[.string ⟨#[65, 49]⟩, .string ⟨#[65, 50]⟩, .string ⟨#[65, 50]⟩, .string ⟨#[65, 51]⟩, .string ⟨#[65, 51]⟩, .string ⟨#[66, 50]⟩, .string ⟨#[66, 50]⟩, .string ⟨#[66, 51]⟩, .string ⟨#[67, 51]⟩, .string ⟨#[71, 50]⟩] := rfl
  rw [hlit] at HD0 HG0
  have HLI := Lib.hid hlit
  clear hd hg0 hlit
  go_enter Tryz.func71, Tryz.ntmps71
  go_wp2_with fail
  refine (picks_any B C _ cv len w.heap.size finL 10 rfl (by omega) (by omega) (by first | exact HG.out | (rw [← HLI.out]; exact HG.out)) (by omega) HD0.out).mono ?_
  rintro e w1 ⟨l, hl, rfl, hd1⟩
  have hw1 : DrTo B C cv len w w1 := ⟨hd1.1, HG0.out.trans hd1.2⟩
  have HW1 := Lib.hid hw1
  have hs1 : w.heap.size ≤ w1.heap.size := hw1.2.size
  have hI := isD_isC (fin_ok l hl)
  have HTY := Lib.hid (tys_any ⟨l.toArray⟩ w1)
  simp only at HTY
  clear hw1 hd1 hl
  generalize typeM l = m at *
  generalize typeB l = tb at *
  have HSQ := Lib.hid (isC_sq hI)
  have HJO := Lib.hid (fun (h3 : m.length < 3) => show JoinOk m (typeM [65, 49]) from ⟨hI, isD_isC a1_ok.1, by rw [a1_ok.2]; omega⟩)
  have HFI := Lib.hid (fit_of_small (sq_small (isC_sq hI)))
  have hn4 := hI.2.2.2
  clear hI
  go_wp2_with fail
  refine HTY.out.mono ?_
  rintro e w2 ⟨x, rfl, hx, hb2⟩
  have HW2 := Lib.hid (HW1.out.trans (DrTo.of_below HW1.out.1 hb2))
  have hs2 := hb2.size
  obtain ⟨xa, xcap, rfl⟩ := hx.1.slice
  have HX := Lib.hid hx
  clear hx hb2
  generalize hn : m.length = n at *
  have HN := Lib.hid hn; clear hn
  by_cases h3 : n < 3
  · have hd3 : decide ((n : Int) < 3) = true := decide_eq_true (by omega)
    have hd3' : decide (n < 3) = true := decide_eq_true h3
    go_wp2_with fail
    refine (once_any B C _ cv len 4 (by omega) (by omega) HW2.out.1).mono ?_
    rintro e w3 ⟨b, rfl, hd⟩
    have HW3 := Lib.hid (HW2.out.trans hd)
    have HX3 := Lib.hid (HX.out.drawn (by omega) hd)
    have hs3 := hd.2.size
    clear hd
    cases b with
    | false =>
      go_wp2_with fail
      go_ret
      exact ⟨_, m, rfl, HW3.out, ⟨HX3.out.1.mono hs1 (by omega), Nat.le_refl _⟩, HSQ.out⟩
    | true =>
      have HTA := Lib.hid (tys_any ⟨#[65, 49]⟩ w3)
      have HJ := Lib.hid (HJO.out h3)
      have HFA := Lib.hid (fit_of_small (sq_small (isC_sq (isD_isC a1_ok.1))))
      simp only at HTA
      generalize typeB _ = tb2 at *
      go_wp2_with fail
      refine HTA.out.mono ?_
      rintro e w4 ⟨y, rfl, hy, hb4⟩
      have HW4 := Lib.hid (HW3.out.trans (DrTo.of_below HW3.out.1 hb4))
      have HX4 := Lib.hid (HX3.out.step (hb4.mono (Nat.le_refl _)))
      have hs4 := hb4.size
      have HY := Lib.hid hy
      clear hy hb4
      go_wp2_with fail
      refine (jos_any _ _ _ y m (typeM [65, 49]) w4 HX4.out.matB HY.out.matB HX4.out.2 HY.out.2 HFI.out HFA.out).mono ?_
      rintro e w5 ⟨z, rfl, hz, hb5⟩
      have HW5 := Lib.hid (HW4.out.trans (DrTo.of_below HW4.out.1 hb5))
      have hs5 := hb5.size
      have HZ := Lib.hid hz
      clear hz hb5
      generalize joinB m (typeM [65, 49]) = jb at *
      go_wp2_with fail
      go_ret
      exact ⟨_, _, rfl, HW5.out, ⟨HZ.out.1.mono (by omega) (Nat.le_refl _), Nat.le_refl _⟩, sq_join HJ.out⟩
  · have hd3 : decide ((n : Int) < 3) = false := decide_eq_false (by omega)
    have hd3' : decide (n < 3) = false := decide_eq_false h3
    go_wp2_with fail
    go_ret
    exact ⟨_, m, rfl, HW2.out, ⟨HX.out.1.mono hs1 (Nat.le_refl _), Nat.le_refl _⟩, HSQ.out⟩

set_option maxHeartbeats 2000000 in
set_option maxRecDepth 100000 in
theorem inf_any (B C : Nat) (w : World) (cv : Value) (len : Nat) (hd : Dr B C cv len w) :
    Calls Tryz.prog 70 #[.pointer (some ⟨C, 0, none⟩)] w (DrM B C cv len Sq w) := by
  have hCw := hd.lt
  have HG := Lib.hid (show (w.alloc (.cells (strsD infL).toArray 9)).heap[w.heap.size]? = some (.cells (strsD infL).toArray 9 (0, 0)) from (MapKept.heap_alloc w _).1)
  have HD0 := Lib.hid (hd.alloc (.cells (strsD infL).toArray 9))
  have hg0 : w.grownBy (w.alloc (.cells (strsD infL).toArray 9)) (some C) := World.grownBy_alloc _ _ _
  have HG0 := Lib.hid hg0
  have hlit : (strsD infL).toArray = #[.string ⟨#[65, 49, 126]⟩, .string ⟨#[65, 50, 126]⟩, .string ⟨#[67, 50, 126]⟩, .string ⟨#[71, 50, 126]⟩, .string ⟨#[65, 51, 126]⟩, .string ⟨#[68, 52]⟩, .string ⟨#[65, 52]⟩] := rfl
  rw [hlit] at HD0 HG0
  have HLI := Lib.hid hlit
  clear hd hg0 hlit
  go_enter Tryz.func70, Tryz.ntmps70
  go_wp2_with fail
  refine (picks_any B C _ cv len w.heap.size infL 7 rfl (by omega) (by omega) (by first | exact HG.out | (rw [← HLI.out]; exact HG.out)) (by omega) HD0.out).mono ?_
  rintro e w1 ⟨l, hl, rfl, hd1⟩
  have hw1 : DrTo B C cv len w w1 := ⟨hd1.1, HG0.out.trans hd1.2⟩
  have HW1 := Lib.hid hw1
  have hs1 : w.heap.size ≤ w1.heap.size := hw1.2.size
  have hsq := isC_sq (isD_isC (inf_ok l hl))
  have HTY := Lib.hid (tys_any ⟨l.toArray⟩ w1)
  simp only at HTY
  clear hw1 hd1 hl
  generalize typeM l = m at *
  generalize typeB l = tb at *
  have HSQ := Lib.hid hsq
  have HSM := Lib.hid (sq_small hsq)
  have HRW := Lib.hid hsq.1
  have hn1 := hsq.2.1
  have hn4 := hsq.2.2
  clear hsq
  go_wp2_with fail
  refine HTY.out.mono ?_
  rintro e w2 ⟨x, rfl, hx, hb2⟩
  have HW2 := Lib.hid (HW1.out.trans (DrTo.of_below HW1.out.1 hb2))
  have hs2 := hb2.size
  obtain ⟨xa, xcap, rfl⟩ := hx.1.slice
  have HX := Lib.hid hx
  clear hx hb2
  have HSE := Lib.hid (sets_any w2.heap.size (.slice xa m.length xcap) m)
  generalize hn : m.length = n at *
  have HN := Lib.hid hn; clear hn
  go_wp2_with fail
  refine (once_any B C _ cv len 3 (by omega) (by omega) HW2.out.1).mono ?_
  rintro e w3 ⟨b, rfl, hd⟩
  have HW3 := Lib.hid (HW2.out.trans hd)
  have HX3 := Lib.hid (HX.out.drawn (by omega) hd)
  have hs3 := hd.2.size
  clear hd
  cases b with
  | false =>
    go_wp2_with fail
    go_ret
    exact ⟨_, m, rfl, HW3.out, ⟨HX3.out.1.mono hs1 (by omega), Nat.le_refl _⟩, HSQ.out⟩
  | true =>
    go_wp2_with fail
    refine (below_any B C _ cv len n hn1 (by omega) HW3.out.1).mono ?_
    rintro e w4 ⟨i, hi, rfl, hd⟩
    have HW4 := Lib.hid (HW3.out.trans hd)
    have HX4 := Lib.hid (HX3.out.drawn (by omega) hd)
    have hs4 := hd.2.size
    clear hd
    go_wp2_with fail
    refine (below_any B C _ cv len n hn1 (by omega) HW4.out.1).mono ?_
    rintro e w5 ⟨j, hj, rfl, hd⟩
    have HW5 := Lib.hid (HW4.out.trans hd)
    have HX5 := Lib.hid (HX4.out.drawn (by omega) hd)
    have hs5 := hd.2.size
    clear hd
    by_cases he : i = j
    · have hq : ((i : Int) != (j : Int)) = false := by rw [bne_eq_false_iff_eq]; omega
      clear he
      go_wp2_with fail
      go_ret
      exact ⟨_, m, rfl, HW5.out, ⟨HX5.out.1.mono hs1 (by omega), Nat.le_refl _⟩, HSQ.out⟩
    · have hq : ((i : Int) != (j : Int)) = true := by rw [bne_iff_ne]; omega
      clear he
      go_wp2_with fail
      refine (below_any B C _ cv len 3 (by omega) (by omega) HW5.out.1).mono ?_
      rintro e w6 ⟨p, hp, rfl, hd⟩
      have HW6 := Lib.hid (HW5.out.trans hd)
      have HX6 := Lib.hid (HX5.out.drawn (by omega) hd)
      have hs6 := hd.2.size
      clear hd
      go_wp2_with fail
      refine (below_any B C _ cv len 3 (by omega) (by omega) HW6.out.1).mono ?_
      rintro e w7 ⟨q, hq7, rfl, hd⟩
      have HW7 := Lib.hid (HW6.out.trans hd)
      have HX7 := Lib.hid (HX6.out.drawn (by omega) hd)
      have hs7 := hd.2.size
      clear hd
      go_wp2_with fail
      refine (HSE.out i j (-1 - (p : Int)) (-1 - (q : Int)) w7 HX7.out.matB HX7.out.2 HSM.out HRW.out hi hj).mono ?_
      rintro e w8 ⟨z, rfl, hz, hb8⟩
      have HW8 := Lib.hid (HW7.out.trans (DrTo.of_below HW7.out.1 hb8))
      have HZ := Lib.hid hz
      clear hz hb8
      go_wp2_with fail
      go_ret
      exact ⟨_, _, rfl, HW8.out, ⟨HZ.out.1.mono (by omega) (Nat.le_refl _), Nat.le_refl _⟩, sq_set2 (sq_set2 HSQ.out _ _ _) _ _ _⟩

set_option maxHeartbeats 1000000 in
set_option maxRecDepth 100000 in
theorem drw_any (B C : Nat) (w : World) (cv : Value) (len : Nat) (hd : Dr B C cv len w) :
    Calls Tryz.prog 48 #[.pointer (some ⟨C, 0, none⟩)] w (DrM B C cv len Sq w) := by
  have HO := Lib.hid (once_any B C w cv len 3 (by omega) (by omega) hd)
  clear hd
  go_enter Tryz.func48, Tryz.ntmps48
  go_wp2_with fail
  refine HO.out.mono ?_
  rintro e w1 ⟨b, rfl, hd⟩
  have HW1 := Lib.hid hd
  have hs1 := hd.2.size
  clear hd
  cases b with
  | true =>
    go_wp2_with fail
    refine (inf_any B C w1 cv len HW1.out.1).mono ?_
    rintro e w2 ⟨x, m, rfl, hd2, hx, hP⟩
    have HW2 := Lib.hid (HW1.out.trans hd2); have HX := Lib.hid hx; have HP := Lib.hid hP
    clear hd2 hx hP
    go_wp2_with fail
    go_ret
    exact ⟨_, m, rfl, HW2.out, ⟨HX.out.1.mono hs1 (Nat.le_refl _), Nat.le_refl _⟩, HP.out⟩
  | false =>
    go_wp2_with fail
    refine (fin_any B C w1 cv len HW1.out.1).mono ?_
    rintro e w2 ⟨x, m, rfl, hd2, hx, hP⟩
    have HW2 := Lib.hid (HW1.out.trans hd2); have HX := Lib.hid hx; have HP := Lib.hid hP
    clear hd2 hx hP
    go_wp2_with fail
    go_ret
    exact ⟨_, m, rfl, HW2.out, ⟨HX.out.1.mono hs1 (Nat.le_refl _), Nat.le_refl _⟩, HP.out⟩
end Go.Proofs.YtfjeghalkmkgoaaGreatDoor
