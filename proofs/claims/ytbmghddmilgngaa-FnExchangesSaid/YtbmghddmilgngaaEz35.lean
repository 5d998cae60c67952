/-
  Chains, copies and changed entries: what the helpers of TypeCartan leave, in the model and in the program.
  The types with a name, as matrices (no walk here).
-/
import Derived.Test.YtbmghddmilgngaaEz34
namespace Go.Proofs.Ytbmghddmilgngaa
open Go.RowKit

theorem RowI.put {A B : Nat} {w : World} {g n cap : Nat} {l : List Int} (h : RowI A B w (.slice (some ⟨g, 0, none⟩) n cap) l) {i : Nat} (hi : i < l.length) (x : Int) :
    ∃ W', w.setCell ⟨g, i, none⟩ (.int .i64 x) = W' ∧ RowI A B W' (.slice (some ⟨g, 0, none⟩) n cap) (l.set i x) ∧ (∃ c, w.cell? ⟨g, i, none⟩ = some c) ∧ w.frozen? ⟨g, i, none⟩ = false ∧
      (∀ W C, C ≤ A → Below C W w → Below C W W') ∧ W'.heap.size = w.heap.size := by
  obtain ⟨h1, h2⟩ := h
  have hn : n = l.length := by
    rcases h1.2 with ⟨h, _⟩ | ⟨g', c', cur, h, _⟩
    · simp at h
    · injection h
  subst hn
  obtain ⟨ho, _⟩ := h1.stored i (.int .i64 x)
  rw [intsV_set] at ho
  refine ⟨_, rfl, ⟨by rw [List.length_set]; exact ho, h2⟩, ⟨_, (h1.cellAt i (by omega)).trans (List.getElem?_eq_getElem (by rw [intsV_len]; exact hi))⟩, h1.frozenAt i, fun W C hC hb => hb.setCell (p := ⟨g, i, none⟩) (Nat.le_trans hC (h1.lt g rfl).1) _, by simp⟩
theorem MatI.put2 {A B : Nat} {w : World} {g n cap : Nat} {m : List (List Int)} (h : MatI A B w (.slice (some ⟨g, 0, none⟩) n cap) m) {j c : Nat} (hj : j < m.length) (hc : c < (m.getD j []).length) (x : Int) :
    ∃ r rcap W', w.cell? ⟨g, j, none⟩ = some (.slice (some ⟨r, 0, none⟩) (m.getD j []).length rcap) ∧ (∃ y, w.cell? ⟨r, c, none⟩ = some y) ∧ w.frozen? ⟨r, c, none⟩ = false ∧ w.setCell ⟨r, c, none⟩ (.int .i64 x) = W' ∧
      MatI A B W' (.slice (some ⟨g, 0, none⟩) n cap) (set2 m j c x) ∧ (∀ W C, C ≤ A → Below C W w → Below C W W') ∧ W'.heap.size = w.heap.size := by
  obtain ⟨g', r, rcap, hg, h1, h2, h3, h4, h5, h6⟩ := h.put hj hc
  injection hg with hg
  injection hg with hg
  subst hg
  exact ⟨r, rcap, _, h1, ⟨_, h2⟩, h3, rfl, h6 x, fun W C hC hb => hb.setCell (p := ⟨r, c, none⟩) (Nat.le_trans hC h4) _, by simp⟩
theorem make_row (n : Nat) (hn : n ≤ 1048576) (w : World) : ∃ w1, (Instr.makeSlice 25 (.int .i64 n) (.int .i64 n)).run Try.prog w = .ok (.slice (some ⟨w.heap.size, 0, none⟩) n n) w1 ∧
    RowI w.heap.size w1.heap.size w1 (.slice (some ⟨w.heap.size, 0, none⟩) n n) (zerosR n) ∧ (∀ W C, C ≤ w.heap.size → Below C W w → Below C W w1) := by
  refine ⟨_, makeInts n hn w, row_made w n hn, fun W C hC hb => hb.alloc hC _⟩

def chainE (i j : Nat) : Int := if i = j then 2 else if i = j + 1 ∨ j = i + 1 then -1 else 0
def chainR (n i : Nat) : List Int := (List.range n).map fun j => chainE i j
def chainL (n : Nat) : List (List Int) := (List.range n).map fun i => chainR n i
theorem chainR_eq : ∀ n, n < 5 → ∀ i, i < n → chainR n i = (if i + 1 < n then (if 0 < i then ((zerosR n).set i 2).set (i - 1) (-1) else (zerosR n).set i 2).set (i + 1) (-1) else (if 0 < i then ((zerosR n).set i 2).set (i - 1) (-1) else (zerosR n).set i 2)) := by decide
theorem chainL_len (n : Nat) : (chainL n).length = n := by simp [chainL]
theorem chainL_step (n k : Nat) (h : k < n) : (chainL n).take k ++ [chainR n k] = (chainL n).take (k + 1) := by
  rw [List.take_succ_eq_append_getElem (by rw [chainL_len]; exact h)]; simp [chainL]
theorem chainL_end (n : Nat) : (chainL n).take n = chainL n := List.take_of_length_le (by rw [chainL_len]; exact Nat.le_refl _)

set_option maxHeartbeats 2000000 in
set_option maxRecDepth 100000 in
theorem chs_any (n : Nat) (w : World) (hn : n < 5) :
    Calls Try.prog 104 #[.int .i64 n] w (MakesM w (chainL n)) := by
  go_enter Try.func104, Try.ntmps104
  go_wp2_with fail
  go_loopw [3, 4] (fun o i wr => ∃ (k : Nat) (wq : World), wq = wr ∧ k ≤ n ∧ i = .int .i64 k ∧ MatI w.heap.size wq.heap.size wq o ((chainL n).take k) ∧ Below w.heap.size w wq) (fun _ i _ => n - (RowKit.intOf i).toNat)
  case atStart => exact ⟨0, _, rfl, Nat.zero_le _, rfl, mat_empty w, (Below.refl _ _).alloc (Nat.le_refl _) _⟩
  case round =>
    obtain ⟨k, wq, rfl, hk, rfl, hM, hb⟩ := hrel
    have HM := Lib.hid hM; clear hM
    have hsq := hb.size
    have HB := Lib.hid hb; clear hb
    by_cases hlt : k < n
    · have hcr := chainR_eq n hn k hlt
      have HCR := Lib.hid hcr; clear hcr
      have HST := Lib.hid (chainL_step n k hlt)
      obtain ⟨w1, hmk, hr1, hb1⟩ := make_row n (by omega) wq
      obtain ⟨W1, he1, hr2, ⟨c1, hc1⟩, hf1, hb2, hz2⟩ := hr1.put (i := k) (by rw [zerosR_len]; exact hlt) 2
      have hlk : ((chainL n).take k).length ≤ 1048576 := by rw [List.length_take]; omega
      have HLK := Lib.hid hlk; clear hlk
      have hbW1 := hb2 wq wq.heap.size (Nat.le_refl _) (hb1 wq wq.heap.size (Nat.le_refl _) (Below.refl _ _))
      have hz1 : W1.heap.size = w1.heap.size := hz2
      clear hr1 hb1 hb2 hz2
      by_cases h0 : 0 < k
      · have HK0 : Hid (decide (0 < k) = true) := Lib.hid (decide_eq_true h0)
        obtain ⟨W2, he2, hr3, ⟨c2, hc2⟩, hf2, hb3, hz3⟩ := hr2.put (i := k - 1) (by rw [List.length_set, zerosR_len]; omega) (-1)
        have hbW2 := hb3 wq wq.heap.size (Nat.le_refl _) hbW1
        clear hb3 hbW1 hr2
        by_cases hk1 : k + 1 < n
        · obtain ⟨W3, he3, hr4, ⟨c3, hc3⟩, hf3, hb4, hz4⟩ := hr3.put (i := k + 1) (by rw [List.length_set, List.length_set, zerosR_len]; omega) (-1)
          have hbW3 := hb4 wq wq.heap.size (Nat.le_refl _) hbW2
          have hM3 := HM.out.same (SameIn.of_below hbW3 (Nat.le_refl _))
          have hrow : RowI wq.heap.size W3.heap.size W3 (.slice (some ⟨wq.heap.size, 0, none⟩) n n) (chainR n k) := by
            have := HCR.out; rw [if_pos hk1, if_pos h0] at this; rw [this, hz4, hz3, hz1]; exact hr4
          have hs3 := hbW3.size
          have HM3 := Lib.hid hM3
          have HR3 := Lib.hid hrow
          have HB3 := Lib.hid hbW3
          clear hM3 hrow hbW3 hbW2 hr3 hr4 hb4 hz1 hz3 hz4
          go_wp2_with (at_builtin; go_must (refine append_row HM3.out HR3.out hsq hs3 rfl rfl rfl rfl HLK.out ?_))
          intro v5 w5 hm5 hb5 hz5
          rw [HST.out] at hm5
          have HM5 := Lib.hid hm5
          have HB5 := Lib.hid (hb5 w w.heap.size (Nat.le_refl _) (HB.out.trans (HB3.out.mono hsq)))
          clear hb5 hz5 hm5
          go_wp2_with fail
          exact ⟨⟨k + 1, _, rfl, by omega, by go_num, HM5.out, HB5.out⟩, by simp [RowKit.intOf]; omega⟩
        · have hM3 := HM.out.same (SameIn.of_below hbW2 (Nat.le_refl _))
          have hrow : RowI wq.heap.size W2.heap.size W2 (.slice (some ⟨wq.heap.size, 0, none⟩) n n) (chainR n k) := by
            have := HCR.out; rw [if_neg hk1, if_pos h0] at this; rw [this, hz3, hz1]; exact hr3
          have hs3 := hbW2.size
          have HM3 := Lib.hid hM3
          have HR3 := Lib.hid hrow
          have HB3 := Lib.hid hbW2
          clear hM3 hrow hbW2 hr3 hz1 hz3
          go_wp2_with (at_builtin; go_must (refine append_row HM3.out HR3.out hsq hs3 rfl rfl rfl rfl HLK.out ?_))
          intro v5 w5 hm5 hb5 hz5
          rw [HST.out] at hm5
          have HM5 := Lib.hid hm5
          have HB5 := Lib.hid (hb5 w w.heap.size (Nat.le_refl _) (HB.out.trans (HB3.out.mono hsq)))
          clear hb5 hz5 hm5
          go_wp2_with fail
          exact ⟨⟨k + 1, _, rfl, by omega, by go_num, HM5.out, HB5.out⟩, by simp [RowKit.intOf]; omega⟩
      · obtain rfl : k = 0 := by omega
        by_cases hk1 : 0 + 1 < n
        · obtain ⟨W3, he3, hr4, ⟨c3, hc3⟩, hf3, hb4, hz4⟩ := hr2.put (i := 1) (by rw [List.length_set, zerosR_len]; omega) (-1)
          have hbW3 := hb4 wq wq.heap.size (Nat.le_refl _) hbW1
          have hM3 := HM.out.same (SameIn.of_below hbW3 (Nat.le_refl _))
          have hrow : RowI wq.heap.size W3.heap.size W3 (.slice (some ⟨wq.heap.size, 0, none⟩) n n) (chainR n 0) := by
            have := HCR.out; rw [if_pos hk1, if_neg h0] at this; rw [this, hz4, hz1]; exact hr4
          have hs3 := hbW3.size
          have HM3 := Lib.hid hM3
          have HR3 := Lib.hid hrow
          have HB3 := Lib.hid hbW3
          clear hM3 hrow hbW3 hbW1 hr2 hr4 hb4 hz1 hz4
          go_wp2_with (at_builtin; go_must (refine append_row HM3.out HR3.out hsq hs3 rfl rfl rfl rfl HLK.out ?_))
          intro v5 w5 hm5 hb5 hz5
          have hm6 : MatI w.heap.size w5.heap.size w5 v5 ((chainL n).take (0 + 1)) := by rw [← HST.out]; exact hm5
          have HM5 := Lib.hid hm6
          clear hm6
          have HB5 := Lib.hid (hb5 w w.heap.size (Nat.le_refl _) (HB.out.trans (HB3.out.mono hsq)))
          clear hb5 hz5 hm5
          go_wp2_with fail
          exact ⟨⟨0 + 1, _, rfl, by omega, by go_num, HM5.out, HB5.out⟩, by simp [RowKit.intOf]; omega⟩
        · have hM3 := HM.out.same (SameIn.of_below hbW1 (Nat.le_refl _))
          have hrow : RowI wq.heap.size W1.heap.size W1 (.slice (some ⟨wq.heap.size, 0, none⟩) n n) (chainR n 0) := by
            have := HCR.out; rw [if_neg hk1, if_neg h0] at this; rw [this, hz1]; exact hr2
          have hs3 := hbW1.size
          have HM3 := Lib.hid hM3
          have HR3 := Lib.hid hrow
          have HB3 := Lib.hid hbW1
          clear hM3 hrow hbW1 hr2 hz1
          go_wp2_with (at_builtin; go_must (refine append_row HM3.out HR3.out hsq hs3 rfl rfl rfl rfl HLK.out ?_))
          intro v5 w5 hm5 hb5 hz5
          have hm6 : MatI w.heap.size w5.heap.size w5 v5 ((chainL n).take (0 + 1)) := by rw [← HST.out]; exact hm5
          have HM5 := Lib.hid hm6
          clear hm6
          have HB5 := Lib.hid (hb5 w w.heap.size (Nat.le_refl _) (HB.out.trans (HB3.out.mono hsq)))
          clear hb5 hz5 hm5
          go_wp2_with fail
          exact ⟨⟨0 + 1, _, rfl, by omega, by go_num, HM5.out, HB5.out⟩, by simp [RowKit.intOf]; omega⟩
    · obtain rfl : k = n := by omega
      go_wp2_with fail
      go_ret
      have hM := HM.out
      rw [chainL_end] at hM
      exact ⟨_, rfl, ⟨hM, Nat.le_refl _⟩, HB.out⟩

/-! ### A copy, and two entries changed -/
theorem take_snocL (m : List (List Int)) (k : Nat) (h : k < m.length) : m.take k ++ [m.getD k []] = m.take (k + 1) := by
  rw [getD_row m k h, List.take_succ_eq_append_getElem h]

set_option maxHeartbeats 2000000 in
set_option maxRecDepth 100000 in
theorem cps_any (B : Nat) (v : Value) (m : List (List Int)) (w : World) (h : MatB B w v m) (hB : B ≤ w.heap.size) (hs : Small m) (hne : ∀ k, k < m.length → m.getD k [] ≠ []) :
    Calls Try.prog 105 #[v] w (MakesM w m) := by
  obtain ⟨a, cap, rfl⟩ := h.slice
  have HR := Lib.hid h; clear h
  have hl := hs.1
  have HSM := Lib.hid hs; clear hs
  have HNE := Lib.hid hne; clear hne
  have HALL := Lib.hid (List.take_length (l := m))
  have HSN := Lib.hid (take_snocL m)
  generalize hn : m.length = n at *
  have HN := Lib.hid hn; clear hn
  go_enter Try.func105, Try.ntmps105
  go_wp2_with fail
  go_loopw [3, 4] (fun o i wr => ∃ (k : Nat) (wq : World), wq = wr ∧ k ≤ n ∧ i = .int .i64 k ∧ MatI w.heap.size wq.heap.size wq o (m.take k) ∧ Below w.heap.size w wq) (fun _ i _ => n - (RowKit.intOf i).toNat)
  case atStart => exact ⟨0, _, rfl, Nat.zero_le _, rfl, mat_empty w, (Below.refl _ _).alloc (Nat.le_refl _) _⟩
  case round =>
    obtain ⟨k, wq, rfl, hk, rfl, hM, hb⟩ := hrel
    have HM := Lib.hid hM; clear hM
    have HB := Lib.hid hb
    have hsq := hb.size
    clear hb
    by_cases hlt : k < n
    · have hkl : k < m.length := by rw [HN.out]; exact hlt
      obtain ⟨b, off, ra, rcap, rfl, hbB, hcell, hrow⟩ := (HR.out.below HB.out hB).rowAt hlt hkl
      have hTK := HSN.out k hlt
      have hne := HNE.out k hlt
      have hlk : (m.take k).length ≤ 1048576 := by rw [List.length_take]; omega
      have hrl : (m.getD k []).length ≤ 1048576 := by rw [getD_row m k hkl]; exact HSM.out.2 k hkl
      generalize m.getD k [] = r at *
      have HTK := Lib.hid hTK
      have HNER := Lib.hid hne
      have HLK := Lib.hid hlk
      have hrow1 : RowB B (wq.alloc (.cells #[] 3)) (.slice ra r.length rcap) r := hrow.below ((Below.refl w.heap.size wq).alloc hsq _) hB
      have HROW1 := Lib.hid hrow1
      have hq1 : wq.heap.size ≤ (wq.alloc (.cells #[] 3)).heap.size := by simp
      have hcell' : (wq.alloc (.cells #[] 3)).cell? ⟨b, off + k, none⟩ = some (.slice ra r.length rcap) := by
        rw [World.cell?_alloc_past _ _ _ (by show b < _; omega)]; exact hcell
      clear hTK hne hlk hrow1 hrow
      generalize hrn : r.length = rn at *
      have HRN := Lib.hid hrn; clear hrn
      have hlen2 : ([] : List Int).length + r.length ≤ 4194304 := by rw [HRN.out]; simp; omega
      have HLEN2 := Lib.hid hlen2
      clear hlen2 hrl
      go_wp2_with (at_builtin; go_must (refine append_ints (row_empty wq) hq1 HROW1.out HNER.out HLEN2.out rfl rfl rfl rfl ?_))
      intro v3 w3 hr3 hb3 hz3
      have hr3 : RowI wq.heap.size w3.heap.size w3 v3 r := by simpa using hr3
      have hb3' := hb3 wq wq.heap.size (Nat.le_refl _) ((Below.refl _ _).alloc (Nat.le_refl _) _)
      have HB3 := Lib.hid hb3'
      have hs3 := hb3'.size
      obtain ⟨xa, xn, xc, rfl⟩ := hr3.slice3
      have HR3 := Lib.hid hr3
      have HM3 := Lib.hid ((HM.out.same (SameIn.of_below hb3' (Nat.le_refl _))))
      clear hb3 hz3 hr3 hb3' hcell hcell'
      go_wp2_with (at_builtin; go_must (refine append_row HM3.out HR3.out hsq hs3 rfl rfl rfl rfl HLK.out ?_))
      intro v5 w5 hm5 hb5 hz5
      have hm6 : MatI w.heap.size w5.heap.size w5 v5 (m.take (k + 1)) := by rw [← HTK.out]; exact hm5
      have HM5 := Lib.hid hm6
      have HB5 := Lib.hid (hb5 w w.heap.size (Nat.le_refl _) (HB.out.trans (HB3.out.mono hsq)))
      clear hb5 hz5 hm5 hm6
      go_wp2_with fail
      exact ⟨⟨k + 1, _, rfl, by omega, by go_num, HM5.out, HB5.out⟩, by simp [RowKit.intOf]; omega⟩
    · obtain rfl : k = n := by omega
      go_wp2_with fail
      go_ret
      have hM := HM.out
      rw [HALL.out] at hM
      exact ⟨_, rfl, ⟨hM, Nat.le_refl _⟩, HB.out⟩

theorem set2_getLen (m : List (List Int)) (j c : Nat) (x : Int) (i : Nat) : ((set2 m j c x).getD i []).length = (m.getD i []).length := by
  unfold set2 List.getD
  by_cases h : j = i
  · subst h
    by_cases hj : j < m.length
    · simp [hj]
    · rw [List.set_eq_of_length_le (by omega)]
  · rw [List.getElem?_set, if_neg h]

set_option maxHeartbeats 2000000 in
set_option maxRecDepth 100000 in
theorem sets_any (B : Nat) (v : Value) (m : List (List Int)) (i j : Nat) (x y : Int) (w : World) (h : MatB B w v m) (hB : B ≤ w.heap.size) (hs : Small m) (hrows : Rows0 m m.length m.length) (hi : i < m.length) (hj : j < m.length) :
    Calls Try.prog 99 #[v, .int .i64 i, .int .i64 j, .int .i64 x, .int .i64 y] w (MakesM w (set2 (set2 m i j x) j i y)) := by
  have hne : ∀ k, k < m.length → m.getD k [] ≠ [] := fun k hk => ne_nil_of_len (by rw [hrows k hk]; omega)
  have HC := Lib.hid (cps_any B v m w h hB hs hne)
  have hl := hs.1
  obtain ⟨a, cap, rfl⟩ := h.slice
  clear h hne
  have HRW := Lib.hid hrows; clear hrows
  generalize hn : m.length = n at *
  go_enter Try.func99, Try.ntmps99
  have HN := Lib.hid hn; clear hn
  go_wp2_with fail
  refine HC.out.mono ?_
  rintro e w1 ⟨x1, rfl, ⟨hm1, _⟩, hb1⟩
  obtain ⟨ra, rn, rcap0, rfl⟩ : ∃ ra rn rcap, x1 = .slice ra rn rcap := by obtain ⟨ra, rc, h⟩ := hm1.slice; exact ⟨ra, _, rc, h⟩
  have hrn : rn = n := by
    obtain ⟨ra', rc', h⟩ := hm1.slice
    injection h with _ h _
    rw [h]; exact HN.out
  subst hrn
  obtain ⟨g, rfl⟩ : ∃ g, ra = some ⟨g, 0, none⟩ := by
    obtain ⟨g, _, _, h, _⟩ := hm1.put (j := i) (c := j) (by rw [HN.out]; exact hi) (by rw [HRW.out i hi]; exact hj)
    exact ⟨g, h⟩
  obtain ⟨r1, rc1, W1, c1, ⟨y1, c2⟩, f1, e1, hm2, hb2, hz2⟩ := hm1.put2 (j := i) (c := j) (by rw [HN.out]; exact hi) (by rw [HRW.out i hi]; exact hj) x
  obtain ⟨r2, rc2, W2, c3, ⟨y2, c4⟩, f2, e2, hm3, hb3, hz3⟩ := hm2.put2 (j := j) (c := i) (by rw [set2_len, HN.out]; exact hj) (by rw [set2_getLen, HRW.out j hj]; exact hi) y
  rw [HRW.out i hi] at c1
  rw [set2_getLen, HRW.out j hj] at c3
  have hbW := hb3 w w.heap.size (Nat.le_refl _) (hb2 w w.heap.size (Nat.le_refl _) hb1)
  have hM : MatI w.heap.size W2.heap.size W2 (.slice (some ⟨g, 0, none⟩) rn rcap0) (set2 (set2 m i j x) j i y) := by rw [hz3, hz2]; exact hm3
  have HM := Lib.hid hM
  have HB := Lib.hid hbW
  clear hM hbW hb3 hb2 hb1 hm1 hm2 hm3 hz2 hz3
  go_wp2_with fail
  go_ret
  exact ⟨_, rfl, ⟨HM.out, Nat.le_refl _⟩, HB.out⟩

/-! ### The program's chain -/
def chS (n k : Nat) : List (List Int) := (List.range n).map fun r => (List.range n).map fun c => if r < k ∧ c < k then chainE r c else 0
theorem chS_zero : ∀ n, n < 5 → chS n 0 = zeros n := by decide
theorem chS_end : ∀ n, n < 5 → chS n n = chainL n := by decide
theorem chS_first : ∀ n, n < 5 → 0 < n → set2 (chS n 0) 0 0 2 = chS n 1 := by decide
theorem chS_next : ∀ n, n < 5 → ∀ k, k < n → 0 < k → set2 (set2 (set2 (chS n k) k k 2) k (k - 1) (-1)) (k - 1) k (-1) = chS n (k + 1) := by decide
theorem chS_len (n k : Nat) : (chS n k).length = n := by simp [chS]
theorem chS_row (n k i : Nat) (h : i < n) : ((chS n k).getD i []).length = n := by simp [chS, List.getD, h]

end Go.Proofs.Ytbmghddmilgngaa
namespace Go.Proofs.Ytbmghddmilgngaa
open Go.RowKit

abbrev Chg := List (Nat × Nat × Int)
abbrev ShTab := List (List UInt8 × Nat × Chg)
def Fresh (T : ShTab) (key : List UInt8) : Prop := ∀ p ∈ T, p.1 ≠ key
instance (T : ShTab) (key : List UInt8) : Decidable (Fresh T key) := by unfold Fresh; infer_instance
def shTab : ShTab := [([65, 49], 1, []), ([65, 50], 2, []), ([65, 51], 3, []), ([65, 52], 4, []), ([66, 50], 2, [(1, 0, -2)]), ([66, 51], 3, [(2, 1, -2)]), ([66, 52], 4, [(3, 2, -2)]), ([67, 51], 3, [(1, 2, -2)]), ([67, 52], 4, [(2, 3, -2)]), ([68, 52], 4, [(2, 3, 0), (3, 2, 0), (1, 3, -1), (3, 1, -1)]), ([70, 52], 4, [(2, 1, -2)]), ([71, 50], 2, [(1, 0, -3)]), ([65, 49, 126], 2, [(0, 1, -2), (1, 0, -2)]), ([65, 50, 126], 3, [(0, 2, -1), (2, 0, -1)]), ([65, 51, 126], 4, [(0, 3, -1), (3, 0, -1)]), ([67, 50, 126], 3, [(1, 0, -2), (1, 2, -2)]), ([71, 50, 126], 3, [(2, 1, -3)])]
def shPre (k : Nat) : ShTab := shTab.take k
def appC (m : List (List Int)) (ch : Chg) : List (List Int) := ch.foldl (fun m c => set2 m c.1 c.2.1 c.2.2) m
theorem appC_step (m : List (List Int)) (ch : Chg) (k : Nat) (h : k < ch.length) : set2 (appC m (ch.take k)) ch[k].1 ch[k].2.1 ch[k].2.2 = appC m (ch.take (k + 1)) := by
  unfold appC
  rw [List.take_succ_eq_append_getElem h, List.foldl_append]
  rfl
theorem appC_len (m : List (List Int)) (ch : Chg) : (appC m ch).length = m.length := by
  induction ch generalizing m with
  | nil => rfl
  | cons c ch ih => exact (ih _).trans (set2_len _ _ _ _)
theorem appC_row (m : List (List Int)) (ch : Chg) (i : Nat) : ((appC m ch).getD i []).length = (m.getD i []).length := by
  induction ch generalizing m with
  | nil => rfl
  | cons c ch ih => exact (ih _).trans (set2_getLen _ _ _ _ _)
theorem chainL_row (n i : Nat) (h : i < n) : ((chainL n).getD i []).length = n := by simp [chainL, chainR, List.getD, h]
def typeAt (l : List UInt8) : Option (Nat × Chg) := (shTab.find? fun p => p.1 == l).map (·.2)
def typeM (l : List UInt8) : List (List Int) := match typeAt l with | some (n, ch) => appC (chainL n) ch | none => []
def typeB (l : List UInt8) : Bool := (typeAt l).isSome
theorem sh_facts : ∀ i (h : i < shTab.length), (∀ k (hk : k < i), shTab[k].1 ≠ shTab[i].1) ∧ shTab[i].2.1 < 5 ∧ (∀ c ∈ shTab[i].2.2, c.1 < shTab[i].2.1 ∧ c.2.1 < shTab[i].2.1) ∧ shTab[i].2.2.length ≤ 4 ∧ typeAt shTab[i].1 = some shTab[i].2 := by decide
theorem typeAt_fresh {l : List UInt8} (h : Fresh shTab l) : typeAt l = none := by
  unfold typeAt
  rw [List.find?_eq_none.2 (fun p hp => by simpa using h p hp)]
  rfl
theorem ba_of {s : ByteArray} {l : List UInt8} (h : s.data.toList = l) : s = ⟨l.toArray⟩ := by
  subst h; rfl
end Go.Proofs.Ytbmghddmilgngaa
