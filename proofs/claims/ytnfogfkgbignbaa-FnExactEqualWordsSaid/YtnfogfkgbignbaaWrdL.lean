/-
  Words: the letters that occur, in ascending order: inserted one by one, or sorted and freed of repetitions (no walk here); what the program's SupportOf returns.
-/
import Derived.Test.YtnfogfkgbignbaaWrdC
import Derived.Lib.SlicesCompact
namespace Go.Proofs.Ytnfogfkgbignbaa
open Go.RowKit

theorem putS_mem (x : Int) (s : List Int × Bool) (y z : Int) : z ∈ (putS x s y).1 ↔ z ∈ s.1 ∨ z = y ∨ (z = x ∧ (putS x s y).2 = true ∧ s.2 = false) := by
  unfold putS
  by_cases h1 : x < y
  · cases h2 : s.2 with
    | true => simp [h1]
    | false =>
      by_cases h3 : y = x
      · omega
      · simp [h1, h3]; constructor <;> (intro h; rcases h with h | h | h <;> simp [h])
  · cases h2 : s.2 with
    | true => simp [h1]
    | false =>
      by_cases h3 : y = x
      · subst h3; simp
      · simp [h1, h3]
theorem snoc_ind {P : List Int → Prop} (h0 : P []) (h1 : ∀ l y, P l → P (l ++ [y])) (l : List Int) : P l := by
  have : ∀ l : List Int, P l.reverse := by
    intro l
    induction l with
    | nil => exact h0
    | cons x l ih => rw [List.reverse_cons]; exact h1 _ _ ih
  simpa using this l.reverse
/-- Ascending without repetition. -/
abbrev Asc (l : List Int) : Prop := l.Pairwise (· < ·)
theorem putP_props (x : Int) (l : List Int) (hl : Asc l) : Asc (putP x l).1 ∧ (∀ z, z ∈ (putP x l).1 ↔ z ∈ l ∨ (z = x ∧ (putP x l).2 = true)) ∧ ((putP x l).2 = false → ∀ z ∈ l, z < x) ∧ ((putP x l).2 = true → ∃ z ∈ l, x ≤ z) := by
  revert hl
  refine snoc_ind (P := fun l => Asc l → Asc (putP x l).1 ∧ (∀ z, z ∈ (putP x l).1 ↔ z ∈ l ∨ (z = x ∧ (putP x l).2 = true)) ∧ ((putP x l).2 = false → ∀ z ∈ l, z < x) ∧ ((putP x l).2 = true → ∃ z ∈ l, x ≤ z)) ?_ ?_ l
  · intro _; simp [putP]
  · intro l y ih hl
    rw [Asc, List.pairwise_append] at hl
    obtain ⟨h1, _, h3⟩ := hl
    have hy : ∀ z ∈ l, z < y := fun z hz => h3 z hz y (by simp)
    obtain ⟨i1, i2, i3, i4⟩ := ih h1
    rw [putP_snoc]
    generalize hs : putP x l = s at *
    obtain ⟨s1, s2⟩ := s
    simp only at i1 i2 i3 i4
    have hb : ∀ z ∈ s1, z < y := fun z hz => by
      rcases (i2 z).1 hz with h | ⟨rfl, h⟩
      · exact hy z h
      · obtain ⟨u, hu, hzu⟩ := i4 h
        exact Int.lt_of_le_of_lt hzu (hy u hu)
    cases s2 with
    | true =>
      have e : putS x (s1, true) y = (s1 ++ [y], true) := by unfold putS; simp
      rw [e]
      refine ⟨?_, fun z => ?_, by simp, fun _ => ?_⟩
      · rw [Asc, List.pairwise_append]; exact ⟨i1, by simp, fun a ha b hb' => by simp at hb'; subst hb'; exact hb a ha⟩
      · have := i2 z; simp at this ⊢; rw [this]; constructor
        · rintro ((h | h) | h) <;> simp [h]
        · rintro ((h | h) | h) <;> simp [h]
      · obtain ⟨u, hu, hxu⟩ := i4 rfl
        exact ⟨u, by simp [hu], hxu⟩
    | false =>
      have hlt := i3 rfl
      have hm : ∀ z, z ∈ s1 ↔ z ∈ l := fun z => by simpa using i2 z
      by_cases hyx : y = x
      · have e : putS x (s1, false) y = (s1 ++ [y], true) := by unfold putS; simp [hyx]
        rw [e]
        refine ⟨?_, fun z => ?_, by simp, fun _ => ⟨y, by simp, by omega⟩⟩
        · rw [Asc, List.pairwise_append]; exact ⟨i1, by simp, fun a ha b hb' => by simp at hb'; subst hb'; exact hb a ha⟩
        · simp [hm z, hyx]; 
      · by_cases hxy : x < y
        · have e : putS x (s1, false) y = (s1 ++ [x, y], true) := by unfold putS; simp [hyx, hxy]
          rw [e]
          refine ⟨?_, fun z => ?_, by simp, fun _ => ⟨y, by simp, by omega⟩⟩
          · rw [Asc, List.pairwise_append]
            refine ⟨i1, by simp [hxy], fun a ha b hb' => ?_⟩
            simp at hb'
            rcases hb' with rfl | rfl
            · exact hlt a ((hm a).1 ha)
            · exact hb a ha
          · simp [hm z]; constructor
            · rintro (h | h | h) <;> simp [h]
            · rintro ((h | h) | h) <;> simp [h]
        · have e : putS x (s1, false) y = (s1 ++ [y], false) := by unfold putS; simp [hyx, hxy]
          rw [e]
          refine ⟨?_, fun z => ?_, fun _ z hz => ?_, by simp⟩
          · rw [Asc, List.pairwise_append]; exact ⟨i1, by simp, fun a ha b hb' => by simp at hb'; subst hb'; exact hb a ha⟩
          · simp [hm z]
          · simp at hz
            rcases hz with h | rfl
            · exact hlt z h
            · omega
theorem putL_props (x : Int) (l : List Int) (hl : Asc l) : Asc (putL l x) ∧ ∀ z, z ∈ putL l x ↔ z ∈ l ∨ z = x := by
  obtain ⟨h1, h2, h3, _⟩ := putP_props x l hl
  unfold putL
  cases h : (putP x l).2 with
  | true =>
    rw [if_pos rfl]
    exact ⟨h1, fun z => by rw [h2 z, h]; simp⟩
  | false =>
    rw [if_neg (by simp)]
    have hm : ∀ z, z ∈ (putP x l).1 ↔ z ∈ l := fun z => by rw [h2 z, h]; simp
    refine ⟨?_, fun z => by simp [hm z]⟩
    rw [Asc, List.pairwise_append]
    exact ⟨h1, by simp, fun a ha b hb => by simp at hb; subst hb; exact h3 h a ((hm a).1 ha)⟩
theorem suppL_props (w : List Int) : Asc (suppL w) ∧ ∀ z, z ∈ suppL w ↔ z ∈ w := by
  have : ∀ (w l : List Int), Asc l → Asc (w.foldl putL l) ∧ ∀ z, z ∈ w.foldl putL l ↔ z ∈ l ∨ z ∈ w := by
    intro w
    induction w with
    | nil => intro l hl; exact ⟨hl, fun z => by simp⟩
    | cons x w ih =>
      intro l hl
      obtain ⟨h1, h2⟩ := putL_props x l hl
      obtain ⟨h3, h4⟩ := ih (putL l x) h1
      exact ⟨h3, fun z => by rw [List.foldl_cons, h4 z, h2 z]; simp [or_assoc]⟩
  obtain ⟨h1, h2⟩ := this w [] List.Pairwise.nil
  exact ⟨h1, fun z => by have := h2 z; unfold suppL; simpa using this⟩
theorem asc_ext {a b : List Int} (ha : Asc a) (hb : Asc b) (h : ∀ z, z ∈ a ↔ z ∈ b) : a = b := by
  refine List.Perm.eq_of_pairwise (le := fun x y => x < y) (fun x y _ _ h1 h2 => by omega) ha hb ?_
  refine (List.perm_ext_iff_of_nodup ?_ ?_).2 h
  · exact ha.imp fun h => by omega
  · exact hb.imp fun h => by omega
/-- A sorted list freed of repetitions. -/
theorem compact_props (l : List Int) (hl : l.Pairwise (· ≤ ·)) : Asc (Lib.compact l) ∧ ∀ z, z ∈ Lib.compact l ↔ z ∈ l := by
  have key : ∀ m, m ≤ l.length → Asc (Lib.compactUpTo l.toArray m) ∧ (∀ z, z ∈ Lib.compactUpTo l.toArray m ↔ z ∈ l.take m) := by
    intro m
    induction m with
    | zero => intro _; simp [Lib.compactUpTo]
    | succ m ih =>
      intro hm
      obtain ⟨h1, h2⟩ := ih (by omega)
      rw [Lib.compactUpTo_succ]
      have hget : l.toArray[m]! = l[m]'(by omega) := by simp [show m < l.length by omega]
      rw [List.take_succ_eq_append_getElem (by omega), hget]
      have hle : ∀ z ∈ l.take m, z ≤ l[m]'(by omega) := by
        intro z hz
        obtain ⟨j, hj, rfl⟩ := List.getElem_of_mem hz
        rw [List.getElem_take]
        have hjm : j < m := by simp at hj; omega
        exact List.pairwise_iff_getElem.1 hl j m (by omega) (by omega) hjm
      by_cases hk : Lib.keeps l.toArray m
      · rw [if_pos hk]
        refine ⟨?_, fun z => by simp only [List.mem_append, List.mem_singleton, h2 z]⟩
        rw [Asc, List.pairwise_append]
        refine ⟨h1, by simp, fun a ha b hb => ?_⟩
        simp at hb
        subst hb
        have ha' := (h2 a).1 ha
        have h4 := hle a ha'
        rcases Nat.eq_zero_or_pos m with h0 | hpos
        · subst h0; simp at ha'
        · have hne : l[m]'(by omega) ≠ l[m - 1]'(by omega) := by
            simp only [Lib.keeps, decide_eq_true_eq] at hk
            rcases hk with h | h
            · omega
            · simpa [show m < l.length by omega, show m - 1 < l.length by omega] using h
          have h5 : a ≤ l[m - 1]'(by omega) := by
            obtain ⟨j, hj, rfl⟩ := List.getElem_of_mem ha'
            rw [List.getElem_take]
            have hjm : j < m := by simp at hj; omega
            by_cases h6 : j = m - 1
            · subst h6; exact Int.le_refl _
            · exact List.pairwise_iff_getElem.1 hl j (m - 1) (by omega) (by omega) (by omega)
          have h6 := List.pairwise_iff_getElem.1 hl (m - 1) m (by omega) (by omega) (by omega)
          omega
      · rw [if_neg hk, List.append_nil]
        refine ⟨h1, fun z => ?_⟩
        rw [h2 z]
        have hm1 : 0 < m ∧ l[m]'(by omega) = l[m - 1]'(by omega) := by
          simp only [Lib.keeps, decide_eq_true_eq] at hk
          rw [not_or] at hk
          refine ⟨by omega, ?_⟩
          have := hk.2
          simpa [show m < l.length by omega, show m - 1 < l.length by omega] using this
        simp only [List.mem_append, List.mem_singleton]
        constructor
        · exact Or.inl
        · rintro (h | h)
          · exact h
          · rw [h, hm1.2]
            exact List.mem_take_iff_getElem.2 ⟨m - 1, by omega, rfl⟩
  obtain ⟨h1, h2⟩ := key l.length (Nat.le_refl _)
  unfold Lib.compact
  exact ⟨h1, fun z => by rw [h2 z, List.take_length]⟩
theorem supp_sorted (w : List Int) : Lib.compact (w.mergeSort fun x y => decide (x ≤ y)) = suppL w := by
  have hs : (w.mergeSort fun x y => decide (x ≤ y)).Pairwise (· ≤ ·) := by
    have := List.pairwise_mergeSort (le := fun x y : Int => decide (x ≤ y)) (fun a b c h1 h2 => by simp at *; omega) (fun a b => by simp; omega) w
    exact this.imp fun h => by simpa using h
  obtain ⟨h1, h2⟩ := compact_props _ hs
  obtain ⟨h3, h4⟩ := suppL_props w
  exact asc_ext h1 h3 fun z => by rw [h2 z, h4 z, List.mem_mergeSort]

set_option maxRecDepth 100000 in
theorem wsup_any (B : Nat) (v : Value) (l : List Int) (w : World) (h : RowB B w v l) (hB : B ≤ w.heap.size) (hl : l.length ≤ 1048576) :
    Calls Try.prog 62 #[v] w (MakesS w (suppL l)) := by
  have HC := Lib.hid (clone_any B v l w h hB hl)
  have HL := Lib.hid hl
  have HLS := Lib.hid (show (l.mergeSort fun x y => decide (x ≤ y)).length ≤ 1048576 by rw [List.length_mergeSort]; exact hl)
  have HSU := Lib.hid (supp_sorted l)
  clear h hl
  go_enter Try.func62, Try.ntmps62
  go_wp2_with fail
  refine HC.out.mono ?_
  rintro e w1 ⟨x, rfl, hx, hb⟩
  have HR := Lib.hid (sortw_row w.heap.size w1 x l hx.1 HL.out)
  have HB := Lib.hid hb
  have HX := Lib.hid hx
  clear hx hb
  go_wp2_with fail
  refine HR.out.mono ?_
  rintro e w2 ⟨rfl, hr, hg⟩
  have HR2 := Lib.hid (compw_row w.heap.size w2 x _ hr HLS.out)
  have HB2 := Lib.hid (HB.out.grown hg HB.out.size (fun k hk => (HX.out.1.1.lt k hk).1))
  clear hr hg
  go_wp2_with fail
  refine HR2.out.mono ?_
  rintro e w3 ⟨y, rfl, hr, hg⟩
  rw [HSU.out] at hr
  have HR3 := Lib.hid hr
  have HB3 := Lib.hid (HB2.out.grown hg HB2.out.size (fun k hk => (HX.out.1.1.lt k hk).1))
  clear hr hg
  go_wp2_with fail
  go_ret
  exact ⟨_, rfl, ⟨HR3.out, Nat.le_refl _⟩, HB3.out⟩
set_option maxRecDepth 100000 in
theorem supi_any (B : Nat) (v : Value) (l : List Int) (w : World) (h : RowB B w v l) (hB : B ≤ w.heap.size) (hl : l.length ≤ 1048576) :
    Calls Try.prog 30 #[v] w (MakesS w (suppL l)) := by
  have HC := Lib.hid (wsup_any B v l w h hB hl)
  clear h hl
  go_enter Try.func30, Try.ntmps30
  go_wp2_with fail
  refine HC.out.mono ?_
  rintro e w1 ⟨x, rfl, hx, hb⟩
  have HX := Lib.hid hx; have HB := Lib.hid hb
  clear hx hb
  go_wp2_with fail
  go_ret
  exact ⟨_, rfl, HX.out, HB.out⟩
end Go.Proofs.Ytnfogfkgbignbaa
