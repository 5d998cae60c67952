/-
  The draws of matrices: what the calls leave, whatever the code.
  A row of a matrix of the call's own is replaced by another row: what the matrix reads as afterwards.
-/
import Derived.Test.YtbmghddmilgngaaEz34
import Derived.Test.YtbmghddmilgngaaEz36
import Derived.Maps.AppendAt
namespace Go.Proofs.Ytbmghddmilgngaa
open Go.RowKit

/-! ### Draws and memory -/
theorem DrTo.of_below {B C : Nat} {cv : Value} {len : Nat} {w w' : World} (h : Dr B C cv len w) (hb : Below w.heap.size w w') : DrTo B C cv len w w' :=
  ⟨h.below hb h.lt, hb.os, hb.tape, hb.output, hb.size, fun k hk _ => hb.block k hk⟩
theorem DrTo.refl {B C : Nat} {cv : Value} {len : Nat} {w : World} (h : Dr B C cv len w) : DrTo B C cv len w w := ⟨h, World.grownBy.refl _ _⟩
theorem OwnM.drawn {A D B C : Nat} {cv x : Value} {len : Nat} {w w' : World} {m : List (List Int)} (h : OwnM A D w x m) (hC : C < A) (hd : DrTo B C cv len w w') : OwnM A D w' x m :=
  ⟨h.1.same fun k h1 h2 => hd.2.block k (Nat.lt_of_lt_of_le h2 h.2) (fun e => by injection e with e; omega), Nat.le_trans h.2 hd.2.size⟩
/-- What a call that draws a matrix leaves. -/
def DrM (B C : Nat) (cv : Value) (len : Nat) (P : List (List Int) → Prop) (w : World) (e : Ending) (w' : World) : Prop :=
  ∃ x m, e = .returned x ∧ DrTo B C cv len w w' ∧ OwnM w.heap.size w'.heap.size w' x m ∧ P m

theorem once_any (B C : Nat) (w : World) (cv : Value) (len n : Nat) (h1 : 1 ≤ n) (h2 : n ≤ 1000) (hd : Dr B C cv len w) :
    Calls Try.prog 58 #[.pointer (some ⟨C, 0, none⟩), .int .i64 n] w fun e w' => ∃ b, e = .returned (.bool b) ∧ DrTo B C cv len w w' := by
  have HD := Lib.hid hd; clear hd
  go_enter Try.func58, Try.ntmps58
  go_wp2_with fail
  refine (below_any B C _ cv len n h1 (by omega) HD.out).mono ?_
  rintro e w1 ⟨r, hr, rfl, hd1⟩
  have HD1 := Lib.hid hd1; clear hd1
  go_wp2_with fail
  go_ret
  exact ⟨_, rfl, HD1.out⟩
def strsD (L : List (List UInt8)) : List Value := L.map fun l => .string ⟨l.toArray⟩
theorem picks_any (B C : Nat) (w : World) (cv : Value) (len : Nat) (G : Nat) (L : List (List UInt8)) (m : Nat) (hm : L.length = m) (h1 : 1 ≤ m) (h2 : m ≤ 1000)
    (hG : w.heap[G]? = some (.cells (strsD L).toArray 9 (0, 0))) (hne : G ≠ C) (hd : Dr B C cv len w) :
    Calls Try.prog 98 #[.pointer (some ⟨C, 0, none⟩), .slice (some ⟨G, 0, none⟩) m m] w fun e w' => ∃ l, l ∈ L ∧ e = .returned (.string ⟨l.toArray⟩) ∧ DrTo B C cv len w w' := by
  have HD := Lib.hid hd; clear hd
  have HG := Lib.hid hG; clear hG
  go_enter Try.func98, Try.ntmps98
  go_wp2_with fail
  refine (below_any B C _ cv len m h1 (by omega) HD.out).mono ?_
  rintro e w1 ⟨r, hr, rfl, hd1⟩
  have hrl : r < L.length := by omega
  have hcell : w1.cell? ⟨G, r, none⟩ = some (.string ⟨(L[r]).toArray⟩) := by
    have : w.cell? ⟨G, r, none⟩ = some (.string ⟨(L[r]).toArray⟩) := by
      rw [cell_of_row w G r _ _ _ HG.out]
      simp [strsD, hrl]
    exact hd1.2.cell this (by simp; omega)
  have HIN := Lib.hid (List.getElem_mem hrl)
  have HD1 := Lib.hid hd1; clear hd1
  generalize L[r] = l at *
  go_wp2_with fail
  go_ret
  exact ⟨l, HIN.out, rfl, HD1.out⟩

/-! ### The named matrices are valid -/
instance (m : List (List Int)) (i j : Nat) : Decidable (okC m i j) := by unfold okC; infer_instance
def IsD (m : List (List Int)) : Prop := (∀ i, i < m.length → (m.getD i []).length = m.length) ∧ (∀ i, i < m.length → ∀ j, j < m.length → okC m i j) ∧ 1 ≤ m.length ∧ m.length ≤ 4
instance (m : List (List Int)) : Decidable (IsD m) := by unfold IsD; infer_instance
theorem isD_isC {m : List (List Int)} (h : IsD m) : IsC m := ⟨h.1, fun i j hi hj => h.2.1 i hi j hj, h.2.2⟩
def Sq (m : List (List Int)) : Prop := Rows0 m m.length m.length ∧ 1 ≤ m.length ∧ m.length ≤ 4
theorem isC_sq {m : List (List Int)} (h : IsC m) : Sq m := ⟨h.1, h.2.2⟩
def finL : List (List UInt8) := [[65, 49], [65, 50], [65, 50], [65, 51], [65, 51], [66, 50], [66, 50], [66, 51], [67, 51], [71, 50]]
def infL : List (List UInt8) := [[65, 49, 126], [65, 50, 126], [67, 50, 126], [71, 50, 126], [65, 51, 126], [68, 52], [65, 52]]
theorem fin_ok : ∀ l ∈ finL, IsD (typeM l) := by decide +kernel
theorem inf_ok : ∀ l ∈ infL, IsD (typeM l) := by decide +kernel
theorem a1_ok : IsD (typeM [65, 49]) ∧ (typeM [65, 49]).length = 1 := by decide +kernel
theorem sq_small {m : List (List Int)} (h : Sq m) : Small m := ⟨by have := h.2; omega, fun j hj => by
  have h1 := h.1 j hj
  rw [getD_row m j hj] at h1
  have := h.2
  omega⟩
theorem sq_set2 {m : List (List Int)} (h : Sq m) (i j : Nat) (x : Int) : Sq (set2 m i j x) := by
  have hl := set2_len m i j x
  refine ⟨fun k hk => ?_, by rw [hl]; exact h.2.1, by rw [hl]; exact h.2.2⟩
  rw [hl] at hk ⊢
  have h1 := h.1 k hk
  unfold set2
  by_cases e : i = k
  · subst e
    simp [List.getD, hk] at h1 ⊢
    exact h1
  · have : (m.set i ((m.getD i []).set j x)).getD k [] = m.getD k [] := by simp [List.getD, e]
    rw [this]; exact h1
theorem sq_join {a b : List (List Int)} (h : JoinOk a b) : Sq (joinM a b) := by
  rw [joinM_yes h]
  have hl := joinL_len a b
  obtain ⟨ha, hb, h4⟩ := h
  refine ⟨fun k hk => ?_, by rw [hl]; have := ha.2.2.1; omega, by rw [hl]; exact h4⟩
  rw [hl] at hk ⊢
  unfold joinL
  by_cases hk' : k < a.length
  · have h1 := ha.1 k hk'
    rw [getD_row a k hk'] at h1
    rw [List.getD_eq_getElem?_getD, List.getElem?_append_left (by simpa using hk')]
    simp [hk', h1]
  · have hkb : k - a.length < b.length := by omega
    have h1 := hb.1 (k - a.length) hkb
    rw [getD_row b _ hkb] at h1
    rw [List.getD_eq_getElem?_getD, List.getElem?_append_right (by simp; omega)]
    simp [hkb, h1]

set_option maxHeartbeats 2000000 in
set_option maxRecDepth 100000 in
theorem fin_any (B C : Nat) (w : World) (cv : Value) (len : Nat) (hd : Dr B C cv len w) :
    Calls Try.prog 92 #[.pointer (some ⟨C, 0, none⟩)] w (DrM B C cv len Sq w) := by
  have hCw := hd.lt
  have HG := Lib.hid (show (w.alloc (.cells (strsD finL).toArray 9)).heap[w.heap.size]? = some (.cells (strsD finL).toArray 9 (0, 0)) from (MapKept.heap_alloc w _).1)
  have HD0 := Lib.hid (hd.alloc (.cells (strsD finL).toArray 9))
  have hg0 : w.grownBy (w.alloc (.cells (strsD finL).toArray 9)) (some C) := World.grownBy_alloc _ _ _
  have HG0 := Lib.hid hg0
  have hlit : (strsD finL).toArray = #[.string ⟨#[65, 49]⟩, .string ⟨#[65, 50]⟩, .string ⟨#[65, 50]⟩, .string ⟨#[65, 51]⟩, .string ⟨#[65, 51]⟩, .string ⟨#[66, 50]⟩, .string ⟨#[66, 50]⟩, .string ⟨#[66, 51]⟩, .string ⟨#[67, 51]⟩, .string ⟨#[71, 50]⟩] := rfl
  rw [hlit] at HD0 HG0
  have HLI := Lib.hid hlit
  clear hd hg0 hlit
  go_enter Try.func92, Try.ntmps92
  go_wp2_with fail
  refine (picks_any B C _ cv len w.heap.size finL 10 rfl (by omega) (by omega) (by first | exact HG.out | (rw [← HLI.out]; exact HG.out)) (by omega) HD0.out).mono ?_
  rintro e w1 ⟨l, hl, rfl, hd1⟩
  have hw1 : DrTo B C cv len w w1 := ⟨hd1.1, HG0.out.trans hd1.2⟩
  have HW1 := Lib.hid hw1
  have hs1 : w.heap.size ≤ w1.heap.size := hw1.2.size
  have hI := isD_isC (fin_ok l hl)
  have HTY := Lib.hid (tys_any ⟨l.toArray⟩ w1)
  simp only at HTY
  clear hw1 hd1 hl
  generalize typeM l = m at *
  generalize typeB l = tb at *
  have HSQ := Lib.hid (isC_sq hI)
  have HJO := Lib.hid (fun (h3 : m.length < 3) => show JoinOk m (typeM [65, 49]) from ⟨hI, isD_isC a1_ok.1, by rw [a1_ok.2]; omega⟩)
  have HFI := Lib.hid (fit_of_small (sq_small (isC_sq hI)))
  have hn4 := hI.2.2.2
  clear hI
  go_wp2_with fail
  refine HTY.out.mono ?_
  rintro e w2 ⟨x, rfl, hx, hb2⟩
  have HW2 := Lib.hid (HW1.out.trans (DrTo.of_below HW1.out.1 hb2))
  have hs2 := hb2.size
  obtain ⟨xa, xcap, rfl⟩ := hx.1.slice
  have HX := Lib.hid hx
  clear hx hb2
  generalize hn : m.length = n at *
  have HN := Lib.hid hn; clear hn
  by_cases h3 : n < 3
  · have hd3 : decide ((n : Int) < 3) = true := decide_eq_true (by omega)
    have hd3' : decide (n < 3) = true := decide_eq_true h3
    go_wp2_with fail
    refine (once_any B C _ cv len 4 (by omega) (by omega) HW2.out.1).mono ?_
    rintro e w3 ⟨b, rfl, hd⟩
    have HW3 := Lib.hid (HW2.out.trans hd)
    have HX3 := Lib.hid (HX.out.drawn (by omega) hd)
    have hs3 := hd.2.size
    clear hd
    cases b with
    | false =>
      go_wp2_with fail
      go_ret
      exact ⟨_, m, rfl, HW3.out, ⟨HX3.out.1.mono hs1 (by omega), Nat.le_refl _⟩, HSQ.out⟩
    | true =>
      have HTA := Lib.hid (tys_any ⟨#[65, 49]⟩ w3)
      have HJ := Lib.hid (HJO.out h3)
      have HFA := Lib.hid (fit_of_small (sq_small (isC_sq (isD_isC a1_ok.1))))
      simp only at HTA
      generalize typeB _ = tb2 at *
      go_wp2_with fail
      refine HTA.out.mono ?_
      rintro e w4 ⟨y, rfl, hy, hb4⟩
      have HW4 := Lib.hid (HW3.out.trans (DrTo.of_below HW3.out.1 hb4))
      have HX4 := Lib.hid (HX3.out.step (hb4.mono (Nat.le_refl _)))
      have hs4 := hb4.size
      have HY := Lib.hid hy
      clear hy hb4
      go_wp2_with fail
      refine (jos_any _ _ _ y m (typeM [65, 49]) w4 HX4.out.matB HY.out.matB HX4.out.2 HY.out.2 HFI.out HFA.out).mono ?_
      rintro e w5 ⟨z, rfl, hz, hb5⟩
      have HW5 := Lib.hid (HW4.out.trans (DrTo.of_below HW4.out.1 hb5))
      have hs5 := hb5.size
      have HZ := Lib.hid hz
      clear hz hb5
      generalize joinB m (typeM [65, 49]) = jb at *
      go_wp2_with fail
      go_ret
      exact ⟨_, _, rfl, HW5.out, ⟨HZ.out.1.mono (by omega) (Nat.le_refl _), Nat.le_refl _⟩, sq_join HJ.out⟩
  · have hd3 : decide ((n : Int) < 3) = false := decide_eq_false (by omega)
    have hd3' : decide (n < 3) = false := decide_eq_false h3
    go_wp2_with fail
    go_ret
    exact ⟨_, m, rfl, HW2.out, ⟨HX.out.1.mono hs1 (Nat.le_refl _), Nat.le_refl _⟩, HSQ.out⟩

set_option maxHeartbeats 2000000 in
set_option maxRecDepth 100000 in
theorem inf_any (B C : Nat) (w : World) (cv : Value) (len : Nat) (hd : Dr B C cv len w) :
    Calls Try.prog 91 #[.pointer (some ⟨C, 0, none⟩)] w (DrM B C cv len Sq w) := by
  have hCw := hd.lt
  have HG := Lib.hid (show (w.alloc (.cells (strsD infL).toArray 9)).heap[w.heap.size]? = some (.cells (strsD infL).toArray 9 (0, 0)) from (MapKept.heap_alloc w _).1)
  have HD0 := Lib.hid (hd.alloc (.cells (strsD infL).toArray 9))
  have hg0 : w.grownBy (w.alloc (.cells (strsD infL).toArray 9)) (some C) := World.grownBy_alloc _ _ _
  have HG0 := Lib.hid hg0
  have hlit : (strsD infL).toArray = #[.string ⟨#[65, 49, 126]⟩, .string ⟨#[65, 50, 126]⟩, .string ⟨#[67, 50, 126]⟩, .string ⟨#[71, 50, 126]⟩, .string ⟨#[65, 51, 126]⟩, .string ⟨#[68, 52]⟩, .string ⟨#[65, 52]⟩] := rfl
  rw [hlit] at HD0 HG0
  have HLI := Lib.hid hlit
  clear hd hg0 hlit
  go_enter Try.func91, Try.ntmps91
  go_wp2_with fail
  refine (picks_any B C _ cv len w.heap.size infL 7 rfl (by omega) (by omega) (by first | exact HG.out | (rw [← HLI.out]; exact HG.out)) (by omega) HD0.out).mono ?_
  rintro e w1 ⟨l, hl, rfl, hd1⟩
  have hw1 : DrTo B C cv len w w1 := ⟨hd1.1, HG0.out.trans hd1.2⟩
  have HW1 := Lib.hid hw1
  have hs1 : w.heap.size ≤ w1.heap.size := hw1.2.size
  have hsq := isC_sq (isD_isC (inf_ok l hl))
  have HTY := Lib.hid (tys_any ⟨l.toArray⟩ w1)
  simp only at HTY
  clear hw1 hd1 hl
  generalize typeM l = m at *
  generalize typeB l = tb at *
  have HSQ := Lib.hid hsq
  have HSM := Lib.hid (sq_small hsq)
  have HRW := Lib.hid hsq.1
  have hn1 := hsq.2.1
  have hn4 := hsq.2.2
  clear hsq
  go_wp2_with fail
  refine HTY.out.mono ?_
  rintro e w2 ⟨x, rfl, hx, hb2⟩
  have HW2 := Lib.hid (HW1.out.trans (DrTo.of_below HW1.out.1 hb2))
  have hs2 := hb2.size
  obtain ⟨xa, xcap, rfl⟩ := hx.1.slice
  have HX := Lib.hid hx
  clear hx hb2
  have HSE := Lib.hid (sets_any w2.heap.size (.slice xa m.length xcap) m)
  generalize hn : m.length = n at *
  have HN := Lib.hid hn; clear hn
  go_wp2_with fail
  refine (once_any B C _ cv len 3 (by omega) (by omega) HW2.out.1).mono ?_
  rintro e w3 ⟨b, rfl, hd⟩
  have HW3 := Lib.hid (HW2.out.trans hd)
  have HX3 := Lib.hid (HX.out.drawn (by omega) hd)
  have hs3 := hd.2.size
  clear hd
  cases b with
  | false =>
    go_wp2_with fail
    go_ret
    exact ⟨_, m, rfl, HW3.out, ⟨HX3.out.1.mono hs1 (by omega), Nat.le_refl _⟩, HSQ.out⟩
  | true =>
    go_wp2_with fail
    refine (below_any B C _ cv len n hn1 (by omega) HW3.out.1).mono ?_
    rintro e w4 ⟨i, hi, rfl, hd⟩
    have HW4 := Lib.hid (HW3.out.trans hd)
    have HX4 := Lib.hid (HX3.out.drawn (by omega) hd)
    have hs4 := hd.2.size
    clear hd
    go_wp2_with fail
    refine (below_any B C _ cv len n hn1 (by omega) HW4.out.1).mono ?_
    rintro e w5 ⟨j, hj, rfl, hd⟩
    have HW5 := Lib.hid (HW4.out.trans hd)
    have HX5 := Lib.hid (HX4.out.drawn (by omega) hd)
    have hs5 := hd.2.size
    clear hd
    by_cases he : i = j
    · have hq : ((i : Int) != (j : Int)) = false := by rw [bne_eq_false_iff_eq]; omega
      clear he
      go_wp2_with fail
      go_ret
      exact ⟨_, m, rfl, HW5.out, ⟨HX5.out.1.mono hs1 (by omega), Nat.le_refl _⟩, HSQ.out⟩
    · have hq : ((i : Int) != (j : Int)) = true := by rw [bne_iff_ne]; omega
      clear he
      go_wp2_with fail
      refine (below_any B C _ cv len 3 (by omega) (by omega) HW5.out.1).mono ?_
      rintro e w6 ⟨p, hp, rfl, hd⟩
      have HW6 := Lib.hid (HW5.out.trans hd)
      have HX6 := Lib.hid (HX5.out.drawn (by omega) hd)
      have hs6 := hd.2.size
      clear hd
      go_wp2_with fail
      refine (below_any B C _ cv len 3 (by omega) (by omega) HW6.out.1).mono ?_
      rintro e w7 ⟨q, hq7, rfl, hd⟩
      have HW7 := Lib.hid (HW6.out.trans hd)
      have HX7 := Lib.hid (HX6.out.drawn (by omega) hd)
      have hs7 := hd.2.size
      clear hd
      go_wp2_with fail
      refine (HSE.out i j (-1 - (p : Int)) (-1 - (q : Int)) w7 HX7.out.matB HX7.out.2 HSM.out HRW.out hi hj).mono ?_
      rintro e w8 ⟨z, rfl, hz, hb8⟩
      have HW8 := Lib.hid (HW7.out.trans (DrTo.of_below HW7.out.1 hb8))
      have HZ := Lib.hid hz
      clear hz hb8
      go_wp2_with fail
      go_ret
      exact ⟨_, _, rfl, HW8.out, ⟨HZ.out.1.mono (by omega) (Nat.le_refl _), Nat.le_refl _⟩, sq_set2 (sq_set2 HSQ.out _ _ _) _ _ _⟩

set_option maxHeartbeats 1000000 in
set_option maxRecDepth 100000 in
theorem drw_any (B C : Nat) (w : World) (cv : Value) (len : Nat) (hd : Dr B C cv len w) :
    Calls Try.prog 81 #[.pointer (some ⟨C, 0, none⟩)] w (DrM B C cv len Sq w) := by
  have HO := Lib.hid (once_any B C w cv len 3 (by omega) (by omega) hd)
  clear hd
  go_enter Try.func81, Try.ntmps81
  go_wp2_with fail
  refine HO.out.mono ?_
  rintro e w1 ⟨b, rfl, hd⟩
  have HW1 := Lib.hid hd
  have hs1 := hd.2.size
  clear hd
  cases b with
  | true =>
    go_wp2_with fail
    refine (inf_any B C w1 cv len HW1.out.1).mono ?_
    rintro e w2 ⟨x, m, rfl, hd2, hx, hP⟩
    have HW2 := Lib.hid (HW1.out.trans hd2); have HX := Lib.hid hx; have HP := Lib.hid hP
    clear hd2 hx hP
    go_wp2_with fail
    go_ret
    exact ⟨_, m, rfl, HW2.out, ⟨HX.out.1.mono hs1 (Nat.le_refl _), Nat.le_refl _⟩, HP.out⟩
  | false =>
    go_wp2_with fail
    refine (fin_any B C w1 cv len HW1.out.1).mono ?_
    rintro e w2 ⟨x, m, rfl, hd2, hx, hP⟩
    have HW2 := Lib.hid (HW1.out.trans hd2); have HX := Lib.hid hx; have HP := Lib.hid hP
    clear hd2 hx hP
    go_wp2_with fail
    go_ret
    exact ⟨_, m, rfl, HW2.out, ⟨HX.out.1.mono hs1 (Nat.le_refl _), Nat.le_refl _⟩, HP.out⟩
end Go.Proofs.Ytbmghddmilgngaa
namespace Go.Proofs.Ytbmghddmilgngaa
open Go.RowKit

theorem RowI.past {A B g : Nat} {w w' : World} {v : Value} {l : List Int} {cur : Array Value} (h : RowI A B w v l) (hg : w.heap[g]? = some (.cells cur 25 (0, 0))) (hgr : w.grownBy w' (some g)) : RowI A B w' v l := by
  refine ⟨⟨h.1.1, ?_⟩, h.2⟩
  rcases h.1.2 with h' | ⟨r, cap, rcur, rfl, hA, hr, hn⟩
  · exact Or.inl h'
  · refine Or.inr ⟨r, cap, rcur, rfl, hA, ?_, hn⟩
    have hlt : r < w.heap.size := (Array.getElem?_eq_some_iff.mp hr).1
    have hne : some r ≠ some g := by
      intro e
      injection e with e
      subst e
      rw [hr] at hg
      injection hg with hg
      injection hg with _ ht _
      exact absurd ht (by decide)
    rw [hgr.block r hlt hne]
    exact hr

/-- A header is replaced by the header of another row of the call's own, in a block of its own. -/
theorem MatI.hdr {A B C : Nat} {w : World} {a : Option Addr} {n cap : Nat} {m : List (List Int)} (h : MatI A B w (.slice a n cap) m) {j : Nat} (hj : j < m.length) {rv : Value} {l : List Int}
    (hr : RowI B C w rv l) (hAB : A ≤ B) (hBC : B ≤ C) :
    ∃ g, a = some ⟨g, 0, none⟩ ∧ w.frozen? ⟨g, j, none⟩ = false ∧ A ≤ g ∧ g < B ∧ w.grownBy (w.setCell ⟨g, j, none⟩ rv) (some g) ∧ MatI A C (w.setCell ⟨g, j, none⟩ rv) (.slice a n cap) (m.set j l) := by
  obtain ⟨hs, h1, h2, h3, h4⟩ := h
  have hlen : hs.length = m.length := by have := h1.1; omega
  rcases h1.2 with ⟨_, h0⟩ | ⟨g, cap', cur, hval, hA, hg, _⟩
  · omega
  have ha : a = some ⟨g, 0, none⟩ := by injection hval
  have hn : n = m.length := by injection hval
  subst ha
  subst hn
  obtain ⟨ho, hgr⟩ := h1.stored j rv
  have hgB := h2 g rfl
  refine ⟨g, rfl, h1.frozenAt j, hA, hgB, hgr, hs.set j rv, by rw [List.length_set]; exact ho, fun g' hg' => Nat.lt_of_lt_of_le (h2 g' hg') hBC, fun i hi => ?_, ?_⟩
  · rw [List.length_set] at hi
    by_cases he : i = j
    · subst he
      exact ⟨rv, by rw [List.getElem?_set_self (by omega)], by rw [List.getElem_set_self]; exact (hr.past hg hgr).mono hAB (Nat.le_refl _)⟩
    · obtain ⟨hv, h5, h6⟩ := h3 i hi
      exact ⟨hv, by rw [List.getElem?_set_ne (fun e => he e.symm)]; exact h5, by rw [List.getElem_set_ne (fun e => he e.symm)]; exact (h6.past hg hgr).mono (Nat.le_refl _) hBC⟩
  · have hold : ∀ (k : Nat) (y : Value), hs[k]? = some y → ∀ q, y.ownBlock = some q → q < B := by
      intro k y hy q hq
      have hk : k < m.length := by
        have := (List.getElem?_eq_some_iff.mp hy).1
        omega
      obtain ⟨hv, h5, h6⟩ := h3 k hk
      rw [h5] at hy
      injection hy with hy
      subst hy
      exact h6.2 q hq
    have hnew : ∀ q, rv.ownBlock = some q → B ≤ q := fun q hq => (hr.1.lt q hq).1
    intro i k x y hik hx hy
    by_cases hi : i = j
    · subst hi
      rw [List.getElem?_set_self (by omega)] at hx
      injection hx with hx
      subst hx
      rw [List.getElem?_set_ne hik] at hy
      cases hq : rv.ownBlock with
      | none => exact Or.inl rfl
      | some q =>
        refine Or.inr fun e => ?_
        have h5 := hnew q hq
        have h6 := hold k y hy q e.symm
        omega
    · rw [List.getElem?_set_ne (fun e => hi e.symm)] at hx
      by_cases hk : k = j
      · subst hk
        rw [List.getElem?_set_self (by omega)] at hy
        injection hy with hy
        subst hy
        cases hq : x.ownBlock with
        | none => exact Or.inl rfl
        | some q =>
          refine Or.inr fun e => ?_
          have h5 := hnew q e.symm
          have h6 := hold i x hx q hq
          omega
      · rw [List.getElem?_set_ne (fun e => hk e.symm)] at hy
        exact h4 i k x y hik hx hy

/-- A row without its first number. -/
theorem RowI.tail {A B : Nat} {w : World} {r n cap : Nat} {l : List Int} (h : RowI A B w (.slice (some ⟨r, 0, none⟩) n cap) l) (cap' : Nat) :
    RowB B w (.slice (some ⟨r, 1, none⟩) (n - 1) cap') (l.drop 1) := by
  have hn : n = l.length := by
    obtain ⟨a, c, e⟩ := h.slice
    injection e
  subst hn
  refine Or.inr ⟨r, 1, cap', by simp, h.2 r rfl, fun j hj => ?_⟩
  have hj' : 1 + j < l.length := by rw [List.length_drop] at hj; omega
  rw [h.1.cellAt (1 + j) (by omega)]
  simp [intsV, Nat.add_comm]

/-- A header is replaced by the header of a row that may share its block with the row that was there. -/
theorem MatI.hdrB {A B C : Nat} {w : World} {a : Option Addr} {n cap : Nat} {m : List (List Int)} (h : MatI A B w (.slice a n cap) m) {j : Nat} (hj : j < m.length) {rv : Value} {l : List Int} (hBC : B ≤ C)
    (hr : ∀ g cur w' w'', w.heap[g]? = some (.cells cur 25 (0, 0)) → w.grownBy w' (some g) → SameIn A C w' w'' → RowB C w'' rv l) :
    ∃ g, a = some ⟨g, 0, none⟩ ∧ w.frozen? ⟨g, j, none⟩ = false ∧ A ≤ g ∧ g < B ∧ w.grownBy (w.setCell ⟨g, j, none⟩ rv) (some g) ∧
      ∀ w'', SameIn A C (w.setCell ⟨g, j, none⟩ rv) w'' → MatB C w'' (.slice a n cap) (m.set j l) := by
  obtain ⟨hs, h1, h2, h3, h4⟩ := h
  have hlen : hs.length = m.length := by have := h1.1; omega
  rcases h1.2 with ⟨_, h0⟩ | ⟨g, cap', cur, hval, hA, hg, _⟩
  · omega
  have ha : a = some ⟨g, 0, none⟩ := by injection hval
  have hn : n = m.length := by injection hval
  subst ha
  subst hn
  obtain ⟨ho, hgr⟩ := h1.stored j rv
  have hgB := h2 g rfl
  refine ⟨g, rfl, h1.frozenAt j, hA, hgB, hgr, fun w'' hsm => Or.inr ⟨g, 0, cap, by rw [List.length_set], Nat.lt_of_lt_of_le hgB hBC, fun i hi => ?_⟩⟩
  rw [List.length_set] at hi
  have ho2 := ownsRow_same ho (fun q hq => Nat.lt_of_lt_of_le (h2 q hq) hBC) hsm
  by_cases he : i = j
  · subst he
    exact ⟨rv, by rw [Nat.zero_add, ho2.cellAt i (by omega), List.getElem?_set_self (by omega)], by rw [List.getElem_set_self]; exact hr g cur _ _ hg hgr hsm⟩
  · obtain ⟨hv, h5, h6⟩ := h3 i hi
    exact ⟨hv, by rw [Nat.zero_add, ho2.cellAt i (by omega), List.getElem?_set_ne (fun e => he e.symm)]; exact h5, by
      rw [List.getElem_set_ne (fun e => he e.symm)]; exact (((h6.past hg hgr).mono (Nat.le_refl _) hBC).same hsm).rowB⟩

/-- The value reads as this matrix, also in every world that keeps the blocks from A on, below B. -/
def OwnK (A B : Nat) (w : World) (v : Value) (m : List (List Int)) : Prop := (∀ w', SameIn A B w w' → MatB B w' v m) ∧ B ≤ w.heap.size
theorem OwnK.mat {A B : Nat} {w : World} {v : Value} {m : List (List Int)} (h : OwnK A B w v m) : MatB B w v m := h.1 w (SameIn.refl _ _ _)
theorem OwnM.ownK {A B : Nat} {w : World} {v : Value} {m : List (List Int)} (h : OwnM A B w v m) : OwnK A B w v m := ⟨fun _ hs => (h.1.same hs).matB, h.2⟩
theorem OwnK.same {A B : Nat} {w w' : World} {v : Value} {m : List (List Int)} (h : OwnK A B w v m) (hs : SameIn A B w w') (hsz : w.heap.size ≤ w'.heap.size) : OwnK A B w' v m :=
  ⟨fun _ h2 => h.1 _ (hs.trans h2), Nat.le_trans h.2 hsz⟩
theorem OwnK.drawn {A D B C : Nat} {cv x : Value} {len : Nat} {w w' : World} {m : List (List Int)} (h : OwnK A D w x m) (hC : C < A) (hd : DrTo B C cv len w w') : OwnK A D w' x m :=
  h.same (fun k h1 h2 => hd.2.block k (Nat.lt_of_lt_of_le h2 h.2) (fun e => by injection e with e; omega)) hd.2.size
theorem OwnK.below {A D : Nat} {x : Value} {w w' : World} {m : List (List Int)} (h : OwnK A D w x m) (hb : Below w.heap.size w w') : OwnK A D w' x m :=
  h.same (SameIn.of_below hb h.2) hb.size

set_option maxRecDepth 100000 in
/-- 'append(s, x...)': all of a row onto a row of the call's own. -/
theorem append_all {ops : Array Oper} {rest : List Oper} {o : Oper} {a : Act} {Q : Exit → Act → World → Prop} {s x : Operand} {A B : Nat} {v : Value} {l l2 : List Int} {W : World} (lb loff n cap : Nat)
    (hM : RowI A W.heap.size W v l) (hA : A ≤ W.heap.size) (hr : RowB B W (.slice (some ⟨lb, loff, none⟩) n cap) l2) (hn : l2.length = n) (hgd : o.guard = none)
    (ho : o.op = .call { callee := .builtin .append, args := #[s, x], argTypes := #[25, 25] }) (hs : a.eval s = v)
    (hx : a.eval x = .slice (some ⟨lb, loff, none⟩) n cap) (hlen : l.length + n ≤ 1048576)
    (h : ∀ v' w', RowI A w'.heap.size w' v' (l ++ l2) → W.grownBy w' v.ownBlock → (v'.ownBlock = v.ownBlock ∨ v'.ownBlock = some W.heap.size) → wpList Try.prog ops Q rest (a.put o.dst v') w') :
    wpList Try.prog ops Q (o :: rest) a W := by
  obtain ⟨h1, h2⟩ := hM
  obtain ⟨i0, hi, hz0, hz1, hz2⟩ := info_parts Try.infoInt
  refine wpList_append_own_at W hgd s x 25 ho A 3 i0 (.int .i64 0) 1 8 Try.underlying25 hi hz0 hz1 hz2 rfl (by omega) v l.length (intsV l) hs h1 ⟨lb, loff, none⟩ n cap (intsV l2) hx (by rw [intsV_len]; omega)
    (fun i u hu => ?_) (fun u hu => ?_) (by unfold maxLen; omega) (by omega) hA ?_
  · have hi : i < l2.length := by have := (List.getElem?_eq_some_iff.1 hu).1; rwa [intsV_len] at this
    have hi2 : i < n := by omega
    rw [Addr.add_lit, ← hu]
    rcases hr with ⟨h0, _⟩ | ⟨b, off, c, he, _, hc⟩
    · rw [h0] at hi; cases hi
    · simp only [Value.slice.injEq, Option.some.injEq, Addr.mk.injEq] at he
      obtain ⟨⟨rfl, rfl, _⟩, _, _⟩ := he
      rw [hc i hi]
      simp only [intsV, List.getElem?_map, List.getElem?_eq_getElem hi, Option.map_some]
  · obtain ⟨z, _, rfl⟩ := List.mem_map.1 hu
    rfl
  · intro v' w' ho' hg _ hat
    refine h v' w' ⟨?_, fun g hgg => (ho'.lt g hgg).2⟩ hg hat
    have e : intsV l ++ intsV l2 = intsV (l ++ l2) := by simp [intsV]
    rw [e] at ho'
    rw [List.length_append, hn]
    exact ho'

/-- A number drawn from a list of four. -/
theorem picki_any (B C : Nat) (w : World) (cv : Value) (len : Nat) (G : Nat) (L : List Int) (m : Nat) (hm : L.length = m) (h1 : 1 ≤ m) (h2 : m ≤ 1000)
    (hG : w.heap[G]? = some (.cells (intsV L).toArray 3 (0, 0))) (hne : G ≠ C) (hd : Dr B C cv len w) :
    Calls Try.prog 78 #[.pointer (some ⟨C, 0, none⟩), .slice (some ⟨G, 0, none⟩) m m] w fun e w' => ∃ z : Int, e = .returned (.int .i64 z) ∧ DrTo B C cv len w w' := by
  have HD := Lib.hid hd; clear hd
  have HG := Lib.hid hG; clear hG
  go_enter Try.func78, Try.ntmps78
  go_wp2_with fail
  refine (below_any B C _ cv len m h1 (by omega) HD.out).mono ?_
  rintro e w1 ⟨r, hr, rfl, hd1⟩
  have hrl : r < L.length := by omega
  have hcell : w1.cell? ⟨G, r, none⟩ = some (.int .i64 (L[r])) := by
    have : w.cell? ⟨G, r, none⟩ = some (.int .i64 (L[r])) := by
      rw [cell_of_row w G r _ _ _ HG.out]
      simp [intsV, hrl]
    exact hd1.2.cell this (by simp; omega)
  have HD1 := Lib.hid hd1; clear hd1
  generalize L[r] = l at *
  go_wp2_with fail
  go_ret
  exact ⟨l, rfl, HD1.out⟩

/-! ### What a drawn matrix looks like -/
def AnyM (m : List (List Int)) : Prop := m.length ≤ 5 ∧ (∀ j (h : j < m.length), m[j].length ≤ 4) ∧ 1 ≤ m.length
theorem AnyM.fit {m : List (List Int)} (h : AnyM m) : RowsFit m := ⟨by have := h.1; unfold maxLen; omega, fun j hj => by have := h.2.1 j hj; unfold maxLen; omega⟩
theorem AnyM.small {m : List (List Int)} (h : AnyM m) : Small m := ⟨by have := h.1; omega, fun j hj => by have := h.2.1 j hj; omega⟩
theorem sq_any {m : List (List Int)} (h : Sq m) : AnyM m := ⟨by have := h.2.2; omega, fun j hj => by
  have h1 := h.1 j hj
  have h2 := h.2.2
  rw [getD_row m j hj] at h1
  omega, h.2.1⟩
end Go.Proofs.Ytbmghddmilgngaa
