/-
  Words: what the program's ConcatWords returns (the library's Grow and Concat at its type word).
  Words: the letters that occur, in ascending order: inserted one by one, or sorted and freed of repetitions (no walk here); what the program's SupportOf returns.
-/
import Derived.Test.YtnfogfkgbignbaaWrdC
import Derived.Lib.SlicesCompact
namespace Go.Proofs.Ytnfogfkgbignbaa
open Go.RowKit

/-- An empty row with room. -/
theorem row_room (w : World) (cur : Array Value) (cap : Nat) (hm : cap ≤ maxLen) (hs : cur.size = cap) :
    RowI w.heap.size (w.alloc (.cells cur 3)).heap.size (w.alloc (.cells cur 3)) (.slice (some ⟨w.heap.size, 0, none⟩) 0 cap) [] :=
  ⟨World.ownsRow_made w cur cap (Nat.le_refl _) hm (by omega), fun g hg => by
    have : w.heap.size = g := by simpa [Value.ownBlock] using hg
    simp; omega⟩
set_option maxHeartbeats 1000000 in
set_option maxRecDepth 100000 in
theorem grow_any (n : Nat) (w : World) (hn : n ≤ 4194304) :
    Calls Try.prog 84 #[.slice none 0 0, .int .i64 n] w (MakesS w []) := by
  obtain ⟨i0, hi, hz0, hz1, hz2⟩ := info_parts Try.infoInt
  by_cases h0 : n = 0
  · subst h0
    go_enter Try.func84, Try.ntmps84
    go_wp2_with fail
    go_ret
    exact ⟨_, rfl, ⟨RowI.nilW _ _ _, Nat.le_refl _⟩, Below.refl _ _⟩
  · have hpos : 0 < n := by omega
    have hd : decide (0 < n) = true := decide_eq_true hpos
    have hrun := Lib.run_append_nil_zeros (P := Try.prog) w 50 3 50 3 i0 (.int .i64 0) .i64 .i64 Try.underlying50 Try.underlying3 hi hz0 n hpos (by omega) (by omega) (by rw [hz2]; omega)
    have hcap : grownCap w n 0 3 ≤ maxLen := grownCap_le_maxLen w n 0 3 (by unfold maxLen; omega)
    have hge := grownCap_ge w n 0 3
    have hsz : (Builtin.zeroCells (Value.int .i64 0).cells n ++ Builtin.zeroCells (Value.int .i64 0).cells (grownCap w n 0 3 - n)).size = grownCap w n 0 3 := by
      rw [Array.size_append, size_zeroCells, size_zeroCells]
      show n * 1 + (_ - n) * 1 = _
      omega
    have HRow := Lib.hid (row_room w.drew _ _ hcap hsz)
    have HRUN := Lib.hid hrun
    unfold maxLen at hcap
    clear hi hz0 hz1 hz2 h0 hrun hsz
    generalize grownCap w n 0 3 = c at *
    generalize Builtin.zeroCells (Value.int .i64 0).cells n ++ Builtin.zeroCells (Value.int .i64 0).cells (c - n) = cur at *
    go_enter Try.func84, Try.ntmps84
    go_wp2_with (at_builtin; go_must (refine Lib.wpList_append_run _ rfl _ _ 50 3 rfl _ _ rfl rfl _ _ HRUN.out ?_))
    go_wp2_with fail
    go_ret
    refine ⟨_, rfl, ⟨HRow.out, Nat.le_refl _⟩, ?_⟩
    exact ((Below.refl w.heap.size w).alloc (Nat.le_refl _) _).trans ((below_drewN 1).mono (by simp))

def catP (l l' : List Int) (k : Nat) : List Int := if k = 0 then [] else if k = 1 then l else l ++ l'
def catN (n n' k : Nat) : Nat := if k = 0 then 0 else if k = 1 then n else n + n'
set_option maxHeartbeats 2000000 in
set_option maxRecDepth 100000 in
theorem slcat_any (g B : Nat) (v v' : Value) (l l' : List Int) (w : World) (hg : g < w.heap.size) (h0 : w.cell? ⟨g, 0, none⟩ = some v) (h1 : w.cell? ⟨g, 1, none⟩ = some v') (h : RowB B w v l) (h' : RowB B w v' l') (hB : B ≤ w.heap.size) (hl : l.length ≤ 1048576) (hl' : l'.length ≤ 1048576) :
    Calls Try.prog 76 #[.slice (some ⟨g, 0, none⟩) 2 2] w (MakesS w (l ++ l')) := by
  have HR := Lib.hid h; have HR' := Lib.hid h'
  obtain ⟨a, cap, rfl⟩ := h.slice
  obtain ⟨a', cap', rfl⟩ := h'.slice
  have HL := Lib.hid hl; have HL' := Lib.hid hl'
  have HP1 : Hid (∀ wq, Below w.heap.size w wq → wq.cell? ⟨g, 0, none⟩ = some (.slice a l.length cap)) := Lib.hid (fun wq hb => (hb.cell (p := ⟨g, 0, none⟩) hg).trans h0)
  have HP2 : Hid (∀ wq, Below w.heap.size w wq → wq.cell? ⟨g, 1, none⟩ = some (.slice a' l'.length cap')) := Lib.hid (fun wq hb => (hb.cell (p := ⟨g, 1, none⟩) hg).trans h1)
  clear h h'
  generalize hn : l.length = n at *
  generalize hn' : l'.length = n' at *
  have HN := Lib.hid hn; have HN' := Lib.hid hn'
  clear hn hn'
  have HG := Lib.hid (fun wq => grow_any (n + n') wq (by omega))
  go_enter Try.func76, Try.ntmps76
  go_wp2_with fail
  go_loop [3, 11] (fun s i => ∃ (k : Nat), k ≤ 2 ∧ i = .int .i64 k ∧ s = .int .i64 (catN n n' k)) (fun _ i => 2 - (intOf i).toNat)
  case atStart => exact ⟨0, by omega, rfl, rfl⟩
  case round =>
    obtain ⟨k, hk, rfl, rfl⟩ := hrel
    rcases (show k = 0 ∨ k = 1 ∨ k = 2 by omega) with rfl | rfl | rfl
    · have e0 : catN n n' 0 = 0 := rfl
      rw [e0]; clear e0
      go_wp2_with fail
      exact ⟨⟨1, by omega, by go_num, by simp [catN]⟩, by simp [intOf]⟩
    · have e0 : catN n n' 1 = n := rfl
      rw [e0]; clear e0
      go_wp2_with fail
      exact ⟨⟨2, by omega, by go_num, by simp [catN]⟩, by simp [intOf]⟩
    · have e0 : catN n n' 2 = n + n' := rfl
      rw [e0]; clear e0
      have HGW := Lib.hid (HG.out w)
      clear h0 h1
      go_wp2_with fail
      refine HGW.out.mono ?_
      rintro e w1 ⟨x, rfl, hx, hb⟩
      have HX := Lib.hid hx.1; have HB := Lib.hid hb
      clear hx hb
      go_wp2_with fail
      go_loopw [6, 27] (fun o i wr => ∃ (k : Nat) (wq : World), wq = wr ∧ k ≤ 2 ∧ i = .int .i64 k ∧ RowI w.heap.size wq.heap.size wq o (catP l l' k) ∧ Below w.heap.size w wq) (fun _ i _ => 2 - (intOf i).toNat)
      case atStart => exact ⟨0, _, rfl, by omega, rfl, HX.out, HB.out⟩
      case round =>
        obtain ⟨k, wq, rfl, hk, rfl, hM, hb⟩ := hrel
        have HM := Lib.hid hM
        have hsq := hb.size
        have HBQ := Lib.hid hb
        clear hM hb
        rcases (show k = 0 ∨ k = 1 ∨ k = 2 by omega) with rfl | rfl | rfl
        · have hcell := HP1.out _ HBQ.out
          have hlen : ([] : List Int).length + l.length ≤ 4194304 := by rw [HN.out]; simp; omega
          have HLEN := Lib.hid hlen; clear hlen
          go_wp2_with (at_builtin; go_must (refine append_intsT (l := []) 50 Try.underlying50 HM.out hsq (HR.out.below HBQ.out hB) HLEN.out rfl rfl rfl rfl ?_))
          intro v3 w3 hr3 hb3 hz3
          have HR3 := Lib.hid hr3
          have HB3 := Lib.hid (hb3 w w.heap.size (Nat.le_refl _) HBQ.out)
          clear hb3 hz3 hr3 hcell
          go_wp2_with fail
          exact ⟨⟨1, _, rfl, by omega, by go_num, HR3.out, HB3.out⟩, by simp [intOf]⟩
        · have hcell := HP2.out _ HBQ.out
          have hlen : l.length + l'.length ≤ 4194304 := by rw [HN.out, HN'.out]; omega
          have HLEN := Lib.hid hlen; clear hlen
          go_wp2_with (at_builtin; go_must (refine append_intsT (l := l) 50 Try.underlying50 HM.out hsq (HR'.out.below HBQ.out hB) HLEN.out rfl rfl rfl rfl ?_))
          intro v3 w3 hr3 hb3 hz3
          have HR3 := Lib.hid hr3
          have HB3 := Lib.hid (hb3 w w.heap.size (Nat.le_refl _) HBQ.out)
          clear hb3 hz3 hr3 hcell
          go_wp2_with fail
          exact ⟨⟨2, _, rfl, by omega, by go_num, HR3.out, HB3.out⟩, by simp [intOf]⟩
        · go_wp2_with fail
          go_ret
          exact ⟨_, rfl, ⟨HM.out, Nat.le_refl _⟩, HBQ.out⟩
set_option maxHeartbeats 1000000 in
set_option maxRecDepth 100000 in
theorem wcat_any (B : Nat) (v v' : Value) (l l' : List Int) (w : World) (h : RowB B w v l) (h' : RowB B w v' l') (hB : B ≤ w.heap.size) (hl : l.length ≤ 1048576) (hl' : l'.length ≤ 1048576) :
    Calls Try.prog 60 #[v, v'] w (MakesS w (l ++ l')) := by
  have hb0 : Below w.heap.size w (w.alloc (.cells #[v, v'] 50)) := (Below.refl _ _).alloc (Nat.le_refl _) _
  have HC := Lib.hid (slcat_any w.heap.size B v v' l l' (w.alloc (.cells #[v, v'] 50)) (by simp) (by rw [World.cell?_alloc_at _ _ _ _ rfl]; rfl) (by rw [World.cell?_alloc_at _ _ _ _ rfl]; rfl) (h.below hb0 hB) (h'.below hb0 hB) (by simp; omega) hl hl')
  have HB0 := Lib.hid hb0
  obtain ⟨a, cap, rfl⟩ := h.slice
  obtain ⟨a', cap', rfl⟩ := h'.slice
  clear h h' hb0 hl hl'
  generalize l.length = n at *
  generalize l'.length = n' at *
  go_enter Try.func60, Try.ntmps60
  go_wp2_with fail
  refine HC.out.mono ?_
  rintro e w1 ⟨x, rfl, hx, hb⟩
  have HX := Lib.hid (hx.1.mono (A' := w.heap.size) (B' := w1.heap.size) (by simp) (Nat.le_refl _))
  have HB := Lib.hid (HB0.out.trans (hb.mono (by simp)))
  clear hx hb
  go_wp2_with fail
  go_ret
  exact ⟨_, rfl, ⟨HX.out, Nat.le_refl _⟩, HB.out⟩
set_option maxRecDepth 100000 in
theorem cati_any (B : Nat) (v v' : Value) (l l' : List Int) (w : World) (h : RowB B w v l) (h' : RowB B w v' l') (hB : B ≤ w.heap.size) (hl : l.length ≤ 1048576) (hl' : l'.length ≤ 1048576) :
    Calls Try.prog 28 #[v, v'] w (MakesS w (l ++ l')) := by
  have HC := Lib.hid (wcat_any B v v' l l' w h h' hB hl hl')
  clear h h' hl hl'
  go_enter Try.func28, Try.ntmps28
  go_wp2_with fail
  refine HC.out.mono ?_
  rintro e w1 ⟨x, rfl, hx, hb⟩
  have HX := Lib.hid hx; have HB := Lib.hid hb
  clear hx hb
  go_wp2_with fail
  go_ret
  exact ⟨_, rfl, HX.out, HB.out⟩
end Go.Proofs.Ytnfogfkgbignbaa
namespace Go.Proofs.Ytnfogfkgbignbaa
open Go.RowKit

theorem putS_mem (x : Int) (s : List Int × Bool) (y z : Int) : z ∈ (putS x s y).1 ↔ z ∈ s.1 ∨ z = y ∨ (z = x ∧ (putS x s y).2 = true ∧ s.2 = false) := by
  unfold putS
  by_cases h1 : x < y
  · cases h2 : s.2 with
    | true => simp [h1]
    | false =>
      by_cases h3 : y = x
      · omega
      · simp [h1, h3]; constructor <;> (intro h; rcases h with h | h | h <;> simp [h])
  · cases h2 : s.2 with
    | true => simp [h1]
    | false =>
      by_cases h3 : y = x
      · subst h3; simp
      · simp [h1, h3]
theorem snoc_ind {P : List Int → Prop} (h0 : P []) (h1 : ∀ l y, P l → P (l ++ [y])) (l : List Int) : P l := by
  have : ∀ l : List Int, P l.reverse := by
    intro l
    induction l with
    | nil => exact h0
    | cons x l ih => rw [List.reverse_cons]; exact h1 _ _ ih
  simpa using this l.reverse
/-- Ascending without repetition. -/
abbrev Asc (l : List Int) : Prop := l.Pairwise (· < ·)
theorem putP_props (x : Int) (l : List Int) (hl : Asc l) : Asc (putP x l).1 ∧ (∀ z, z ∈ (putP x l).1 ↔ z ∈ l ∨ (z = x ∧ (putP x l).2 = true)) ∧ ((putP x l).2 = false → ∀ z ∈ l, z < x) ∧ ((putP x l).2 = true → ∃ z ∈ l, x ≤ z) := by
  revert hl
  refine snoc_ind (P := fun l => Asc l → Asc (putP x l).1 ∧ (∀ z, z ∈ (putP x l).1 ↔ z ∈ l ∨ (z = x ∧ (putP x l).2 = true)) ∧ ((putP x l).2 = false → ∀ z ∈ l, z < x) ∧ ((putP x l).2 = true → ∃ z ∈ l, x ≤ z)) ?_ ?_ l
  · intro _; simp [putP]
  · intro l y ih hl
    rw [Asc, List.pairwise_append] at hl
    obtain ⟨h1, _, h3⟩ := hl
    have hy : ∀ z ∈ l, z < y := fun z hz => h3 z hz y (by simp)
    obtain ⟨i1, i2, i3, i4⟩ := ih h1
    rw [putP_snoc]
    generalize hs : putP x l = s at *
    obtain ⟨s1, s2⟩ := s
    simp only at i1 i2 i3 i4
    have hb : ∀ z ∈ s1, z < y := fun z hz => by
      rcases (i2 z).1 hz with h | ⟨rfl, h⟩
      · exact hy z h
      · obtain ⟨u, hu, hzu⟩ := i4 h
        exact Int.lt_of_le_of_lt hzu (hy u hu)
    cases s2 with
    | true =>
      have e : putS x (s1, true) y = (s1 ++ [y], true) := by unfold putS; simp
      rw [e]
      refine ⟨?_, fun z => ?_, by simp, fun _ => ?_⟩
      · rw [Asc, List.pairwise_append]; exact ⟨i1, by simp, fun a ha b hb' => by simp at hb'; subst hb'; exact hb a ha⟩
      · have := i2 z; simp at this ⊢; rw [this]; constructor
        · rintro ((h | h) | h) <;> simp [h]
        · rintro ((h | h) | h) <;> simp [h]
      · obtain ⟨u, hu, hxu⟩ := i4 rfl
        exact ⟨u, by simp [hu], hxu⟩
    | false =>
      have hlt := i3 rfl
      have hm : ∀ z, z ∈ s1 ↔ z ∈ l := fun z => by simpa using i2 z
      by_cases hyx : y = x
      · have e : putS x (s1, false) y = (s1 ++ [y], true) := by unfold putS; simp [hyx]
        rw [e]
        refine ⟨?_, fun z => ?_, by simp, fun _ => ⟨y, by simp, by omega⟩⟩
        · rw [Asc, List.pairwise_append]; exact ⟨i1, by simp, fun a ha b hb' => by simp at hb'; subst hb'; exact hb a ha⟩
        · simp [hm z, hyx]; 
      · by_cases hxy : x < y
        · have e : putS x (s1, false) y = (s1 ++ [x, y], true) := by unfold putS; simp [hyx, hxy]
          rw [e]
          refine ⟨?_, fun z => ?_, by simp, fun _ => ⟨y, by simp, by omega⟩⟩
          · rw [Asc, List.pairwise_append]
            refine ⟨i1, by simp [hxy], fun a ha b hb' => ?_⟩
            simp at hb'
            rcases hb' with rfl | rfl
            · exact hlt a ((hm a).1 ha)
            · exact hb a ha
          · simp [hm z]; constructor
            · rintro (h | h | h) <;> simp [h]
            · rintro ((h | h) | h) <;> simp [h]
        · have e : putS x (s1, false) y = (s1 ++ [y], false) := by unfold putS; simp [hyx, hxy]
          rw [e]
          refine ⟨?_, fun z => ?_, fun _ z hz => ?_, by simp⟩
          · rw [Asc, List.pairwise_append]; exact ⟨i1, by simp, fun a ha b hb' => by simp at hb'; subst hb'; exact hb a ha⟩
          · simp [hm z]
          · simp at hz
            rcases hz with h | rfl
            · exact hlt z h
            · omega
theorem putL_props (x : Int) (l : List Int) (hl : Asc l) : Asc (putL l x) ∧ ∀ z, z ∈ putL l x ↔ z ∈ l ∨ z = x := by
  obtain ⟨h1, h2, h3, _⟩ := putP_props x l hl
  unfold putL
  cases h : (putP x l).2 with
  | true =>
    rw [if_pos rfl]
    exact ⟨h1, fun z => by rw [h2 z, h]; simp⟩
  | false =>
    rw [if_neg (by simp)]
    have hm : ∀ z, z ∈ (putP x l).1 ↔ z ∈ l := fun z => by rw [h2 z, h]; simp
    refine ⟨?_, fun z => by simp [hm z]⟩
    rw [Asc, List.pairwise_append]
    exact ⟨h1, by simp, fun a ha b hb => by simp at hb; subst hb; exact h3 h a ((hm a).1 ha)⟩
theorem suppL_props (w : List Int) : Asc (suppL w) ∧ ∀ z, z ∈ suppL w ↔ z ∈ w := by
  have : ∀ (w l : List Int), Asc l → Asc (w.foldl putL l) ∧ ∀ z, z ∈ w.foldl putL l ↔ z ∈ l ∨ z ∈ w := by
    intro w
    induction w with
    | nil => intro l hl; exact ⟨hl, fun z => by simp⟩
    | cons x w ih =>
      intro l hl
      obtain ⟨h1, h2⟩ := putL_props x l hl
      obtain ⟨h3, h4⟩ := ih (putL l x) h1
      exact ⟨h3, fun z => by rw [List.foldl_cons, h4 z, h2 z]; simp [or_assoc]⟩
  obtain ⟨h1, h2⟩ := this w [] List.Pairwise.nil
  exact ⟨h1, fun z => by have := h2 z; unfold suppL; simpa using this⟩
theorem asc_ext {a b : List Int} (ha : Asc a) (hb : Asc b) (h : ∀ z, z ∈ a ↔ z ∈ b) : a = b := by
  refine List.Perm.eq_of_pairwise (le := fun x y => x < y) (fun x y _ _ h1 h2 => by omega) ha hb ?_
  refine (List.perm_ext_iff_of_nodup ?_ ?_).2 h
  · exact ha.imp fun h => by omega
  · exact hb.imp fun h => by omega
/-- A sorted list freed of repetitions. -/
theorem compact_props (l : List Int) (hl : l.Pairwise (· ≤ ·)) : Asc (Lib.compact l) ∧ ∀ z, z ∈ Lib.compact l ↔ z ∈ l := by
  have key : ∀ m, m ≤ l.length → Asc (Lib.compactUpTo l.toArray m) ∧ (∀ z, z ∈ Lib.compactUpTo l.toArray m ↔ z ∈ l.take m) := by
    intro m
    induction m with
    | zero => intro _; simp [Lib.compactUpTo]
    | succ m ih =>
      intro hm
      obtain ⟨h1, h2⟩ := ih (by omega)
      rw [Lib.compactUpTo_succ]
      have hget : l.toArray[m]! = l[m]'(by omega) := by simp [show m < l.length by omega]
      rw [List.take_succ_eq_append_getElem (by omega), hget]
      have hle : ∀ z ∈ l.take m, z ≤ l[m]'(by omega) := by
        intro z hz
        obtain ⟨j, hj, rfl⟩ := List.getElem_of_mem hz
        rw [List.getElem_take]
        have hjm : j < m := by simp at hj; omega
        exact List.pairwise_iff_getElem.1 hl j m (by omega) (by omega) hjm
      by_cases hk : Lib.keeps l.toArray m
      · rw [if_pos hk]
        refine ⟨?_, fun z => by simp only [List.mem_append, List.mem_singleton, h2 z]⟩
        rw [Asc, List.pairwise_append]
        refine ⟨h1, by simp, fun a ha b hb => ?_⟩
        simp at hb
        subst hb
        have ha' := (h2 a).1 ha
        have h4 := hle a ha'
        rcases Nat.eq_zero_or_pos m with h0 | hpos
        · subst h0; simp at ha'
        · have hne : l[m]'(by omega) ≠ l[m - 1]'(by omega) := by
            simp only [Lib.keeps, decide_eq_true_eq] at hk
            rcases hk with h | h
            · omega
            · simpa [show m < l.length by omega, show m - 1 < l.length by omega] using h
          have h5 : a ≤ l[m - 1]'(by omega) := by
            obtain ⟨j, hj, rfl⟩ := List.getElem_of_mem ha'
            rw [List.getElem_take]
            have hjm : j < m := by simp at hj; omega
            by_cases h6 : j = m - 1
            · subst h6; exact Int.le_refl _
            · exact List.pairwise_iff_getElem.1 hl j (m - 1) (by omega) (by omega) (by omega)
          have h6 := List.pairwise_iff_getElem.1 hl (m - 1) m (by omega) (by omega) (by omega)
          omega
      · rw [if_neg hk, List.append_nil]
        refine ⟨h1, fun z => ?_⟩
        rw [h2 z]
        have hm1 : 0 < m ∧ l[m]'(by omega) = l[m - 1]'(by omega) := by
          simp only [Lib.keeps, decide_eq_true_eq] at hk
          rw [not_or] at hk
          refine ⟨by omega, ?_⟩
          have := hk.2
          simpa [show m < l.length by omega, show m - 1 < l.length by omega] using this
        simp only [List.mem_append, List.mem_singleton]
        constructor
        · exact Or.inl
        · rintro (h | h)
          · exact h
          · rw [h, hm1.2]
            exact List.mem_take_iff_getElem.2 ⟨m - 1, by omega, rfl⟩
  obtain ⟨h1, h2⟩ := key l.length (Nat.le_refl _)
  unfold Lib.compact
  exact ⟨h1, fun z => by rw [h2 z, List.take_length]⟩
theorem supp_sorted (w : List Int) : Lib.compact (w.mergeSort fun x y => decide (x ≤ y)) = suppL w := by
  have hs : (w.mergeSort fun x y => decide (x ≤ y)).Pairwise (· ≤ ·) := by
    have := List.pairwise_mergeSort (le := fun x y : Int => decide (x ≤ y)) (fun a b c h1 h2 => by simp at *; omega) (fun a b => by simp; omega) w
    exact this.imp fun h => by simpa using h
  obtain ⟨h1, h2⟩ := compact_props _ hs
  obtain ⟨h3, h4⟩ := suppL_props w
  exact asc_ext h1 h3 fun z => by rw [h2 z, h4 z, List.mem_mergeSort]

set_option maxRecDepth 100000 in
theorem wsup_any (B : Nat) (v : Value) (l : List Int) (w : World) (h : RowB B w v l) (hB : B ≤ w.heap.size) (hl : l.length ≤ 1048576) :
    Calls Try.prog 62 #[v] w (MakesS w (suppL l)) := by
  have HC := Lib.hid (clone_any B v l w h hB hl)
  have HL := Lib.hid hl
  have HLS := Lib.hid (show (l.mergeSort fun x y => decide (x ≤ y)).length ≤ 1048576 by rw [List.length_mergeSort]; exact hl)
  have HSU := Lib.hid (supp_sorted l)
  clear h hl
  go_enter Try.func62, Try.ntmps62
  go_wp2_with fail
  refine HC.out.mono ?_
  rintro e w1 ⟨x, rfl, hx, hb⟩
  have HR := Lib.hid (sortw_row w.heap.size w1 x l hx.1 HL.out)
  have HB := Lib.hid hb
  have HX := Lib.hid hx
  clear hx hb
  go_wp2_with fail
  refine HR.out.mono ?_
  rintro e w2 ⟨rfl, hr, hg⟩
  have HR2 := Lib.hid (compw_row w.heap.size w2 x _ hr HLS.out)
  have HB2 := Lib.hid (HB.out.grown hg HB.out.size (fun k hk => (HX.out.1.1.lt k hk).1))
  clear hr hg
  go_wp2_with fail
  refine HR2.out.mono ?_
  rintro e w3 ⟨y, rfl, hr, hg⟩
  rw [HSU.out] at hr
  have HR3 := Lib.hid hr
  have HB3 := Lib.hid (HB2.out.grown hg HB2.out.size (fun k hk => (HX.out.1.1.lt k hk).1))
  clear hr hg
  go_wp2_with fail
  go_ret
  exact ⟨_, rfl, ⟨HR3.out, Nat.le_refl _⟩, HB3.out⟩
set_option maxRecDepth 100000 in
theorem supi_any (B : Nat) (v : Value) (l : List Int) (w : World) (h : RowB B w v l) (hB : B ≤ w.heap.size) (hl : l.length ≤ 1048576) :
    Calls Try.prog 30 #[v] w (MakesS w (suppL l)) := by
  have HC := Lib.hid (wsup_any B v l w h hB hl)
  clear h hl
  go_enter Try.func30, Try.ntmps30
  go_wp2_with fail
  refine HC.out.mono ?_
  rintro e w1 ⟨x, rfl, hx, hb⟩
  have HX := Lib.hid hx; have HB := Lib.hid hb
  clear hx hb
  go_wp2_with fail
  go_ret
  exact ⟨_, rfl, HX.out, HB.out⟩
end Go.Proofs.Ytnfogfkgbignbaa
