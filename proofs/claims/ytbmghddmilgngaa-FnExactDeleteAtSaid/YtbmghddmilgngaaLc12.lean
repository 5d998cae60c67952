/-
  Lists of ints and matrices of the call's own: what they read as, and the laws' helpers that write marks into them and read the marks again.
  A law that takes a matrix: what the argument reads as.
-/
import Derived.Test.YtbmghddmilgngaaLc02
import Derived.Deep.Matrix
import Derived.ProofKit
import Derived.Test.YtbmghddmilgngaaLc01
namespace Go.Proofs.Ytbmghddmilgngaa
open Go.RowKit

theorem grown_trans {a b c : World} {S : Option Nat} (h : a.grownBy b S) (k : b.grownBy c S) : a.grownBy c S :=
  ⟨k.os.trans h.os, k.tape.trans h.tape, k.output.trans h.output, Nat.le_trans h.size k.size, fun i hi hn => (k.block i (Nat.lt_of_lt_of_le hi h.size) hn).trans (h.block i hi hn)⟩

/-- The value reads as this list of ints, from a row of the call's own in a block from A on, below B. -/
def RowI (A B : Nat) (w : World) (v : Value) (l : List Int) : Prop := w.ownsRow A 3 1 v l.length (intsV l) ∧ ∀ g, v.ownBlock = some g → g < B
theorem RowI.rowB {A B : Nat} {w : World} {v : Value} {l : List Int} (h : RowI A B w v l) : RowB B w v l := by
  obtain ⟨h1, h2⟩ := h
  rcases h1.2 with ⟨rfl, h0⟩ | ⟨g, cap, cur, rfl, hA, hg, hn, hc, hs, ht⟩
  · exact Or.inl ⟨List.eq_nil_of_length_eq_zero h0, none, 0, rfl⟩
  · refine Or.inr ⟨g, 0, cap, rfl, h2 g rfl, fun j hj => ?_⟩
    rw [Nat.zero_add, h1.cellAt j (by omega)]
    simp [intsV, hj]
theorem RowI.mono {A A' B B' : Nat} {w : World} {v : Value} {l : List Int} (h : RowI A B w v l) (hA : A' ≤ A) (hB : B ≤ B') : RowI A' B' w v l := by
  obtain ⟨h1, h2⟩ := h
  refine ⟨⟨h1.1, ?_⟩, fun g hg => Nat.lt_of_lt_of_le (h2 g hg) hB⟩
  rcases h1.2 with h | ⟨g, cap, cur, h3, h4, h5⟩
  · exact Or.inl h
  · exact Or.inr ⟨g, cap, cur, h3, by omega, h5⟩
/-- What lies in the blocks from A on, below B, is the same in both worlds. -/
def SameIn (A B : Nat) (w w' : World) : Prop := ∀ k, A ≤ k → k < B → w'.heap[k]? = w.heap[k]?
theorem SameIn.of_below {A B C : Nat} {w w' : World} (h : Below C w w') (hB : B ≤ C) : SameIn A B w w' := fun k _ hk => h.block k (by omega)
theorem SameIn.refl (A B : Nat) (w : World) : SameIn A B w w := fun _ _ _ => rfl
theorem SameIn.trans {A B : Nat} {a b c : World} (h : SameIn A B a b) (k : SameIn A B b c) : SameIn A B a c := fun i h1 h2 => (k i h1 h2).trans (h i h1 h2)
theorem ownsRow_same {A B : Nat} {w w' : World} {e : TypeId} {v : Value} {n : Nat} {xs : List Value} (h : w.ownsRow A e 1 v n xs) (hB : ∀ g, v.ownBlock = some g → g < B) (hs : SameIn A B w w') : w'.ownsRow A e 1 v n xs := by
  refine ⟨h.1, ?_⟩
  rcases h.2 with h' | ⟨g, cap, cur, rfl, h4, h5, h6⟩
  · exact Or.inl h'
  · exact Or.inr ⟨g, cap, cur, rfl, h4, by rw [hs g h4 (hB g rfl)]; exact h5, h6⟩
theorem RowI.same {A B : Nat} {w w' : World} {v : Value} {l : List Int} (h : RowI A B w v l) (hs : SameIn A B w w') : RowI A B w' v l := ⟨ownsRow_same h.1 h.2 hs, h.2⟩
theorem RowI.slice {A B : Nat} {w : World} {v : Value} {l : List Int} (h : RowI A B w v l) : ∃ a cap, v = .slice a l.length cap := h.rowB.slice

/-- The value reads as this matrix, all of it the call's own, in blocks from A on, below B; no two rows share a block. -/
def MatI (A B : Nat) (w : World) (v : Value) (m : List (List Int)) : Prop :=
  ∃ hs : List Value, w.ownsRow A 25 1 v m.length hs ∧ (∀ g, v.ownBlock = some g → g < B) ∧ (∀ j (h : j < m.length), ∃ hv, hs[j]? = some hv ∧ RowI A B w hv m[j]) ∧
    ∀ (i j : Nat) (x y : Value), i ≠ j → hs[i]? = some x → hs[j]? = some y → x.ownBlock = none ∨ x.ownBlock ≠ y.ownBlock
theorem MatI.matB {A B : Nat} {w : World} {v : Value} {m : List (List Int)} (h : MatI A B w v m) : MatB B w v m := by
  obtain ⟨hs, h1, h2, h3, _⟩ := h
  rcases h1.2 with ⟨rfl, h0⟩ | ⟨g, cap, cur, rfl, hA, hg, hn, hc, hsz, ht⟩
  · exact Or.inl ⟨List.eq_nil_of_length_eq_zero h0, none, 0, rfl⟩
  · refine Or.inr ⟨g, 0, cap, rfl, h2 g rfl, fun j hj => ?_⟩
    obtain ⟨hv, h4, h5⟩ := h3 j hj
    exact ⟨hv, by rw [Nat.zero_add, h1.cellAt j (by omega)]; exact h4, h5.rowB⟩
theorem MatI.mono {A A' B B' : Nat} {w : World} {v : Value} {m : List (List Int)} (h : MatI A B w v m) (hA : A' ≤ A) (hB : B ≤ B') : MatI A' B' w v m := by
  obtain ⟨hs, h1, h2, h3, h4⟩ := h
  refine ⟨hs, ⟨h1.1, ?_⟩, fun g hg => Nat.lt_of_lt_of_le (h2 g hg) hB, fun j hj => ?_, h4⟩
  · rcases h1.2 with h | ⟨g, cap, cur, h3, h4, h5⟩
    · exact Or.inl h
    · exact Or.inr ⟨g, cap, cur, h3, by omega, h5⟩
  · obtain ⟨hv, h5, h6⟩ := h3 j hj
    exact ⟨hv, h5, h6.mono hA hB⟩
theorem MatI.same {A B : Nat} {w w' : World} {v : Value} {m : List (List Int)} (h : MatI A B w v m) (hs : SameIn A B w w') : MatI A B w' v m := by
  obtain ⟨hh, h1, h2, h3, h4⟩ := h
  refine ⟨hh, ownsRow_same h1 h2 hs, h2, fun j hj => ?_, h4⟩
  obtain ⟨hv, h5, h6⟩ := h3 j hj
  exact ⟨hv, h5, h6.same hs⟩
theorem MatI.slice {A B : Nat} {w : World} {v : Value} {m : List (List Int)} (h : MatI A B w v m) : ∃ a cap, v = .slice a m.length cap := h.matB.slice
theorem MatI.nil (A B : Nat) (w : World) : MatI A B w (.slice none 0 0) [] := ⟨[], World.ownsRow_nil _ _ _ _, fun g h => by simp [Value.ownBlock] at h, fun j hj => by simp at hj, fun i j x y _ h => by simp at h⟩

/-- A copy of a matrix is the call's own. -/
theorem CopySt.matI {O : Nat} {m : List (List Int)} {w : World} (h : CopySt O m m.length w) (hs : Small m) : MatI O (O + 1 + m.length) w (.slice (some ⟨O, 0, none⟩) m.length m.length) m := by
  obtain ⟨h1, h2, h3⟩ := h
  have hl := hs.1
  refine ⟨hdrSt O m m.length, ⟨by rw [hdrSt_len]; omega, Or.inr ⟨O, m.length, _, rfl, Nat.le_refl _, h1, Nat.le_refl _, by unfold maxLen; omega, by simp [hdrSt_len], ?_⟩⟩, ?_, fun j hj => ⟨hdr O m j, hdrSt_get O m m.length j hj hj, ?_⟩, ?_⟩
  · rw [List.take_of_length_le]; simp [hdrSt_len]
  · intro g hg
    have : O = g := by simpa [Value.ownBlock] using hg
    omega
  · rw [hdr_eq O m j hj]
    have hj2 := hs.2 j hj
    refine ⟨⟨by rw [intsV_len]; omega, Or.inr ⟨O + 1 + j, m[j].length, _, rfl, by omega, h3 j hj hj, Nat.le_refl _, by unfold maxLen; omega, by simp [intsV_len], ?_⟩⟩, fun g hg => ?_⟩
    · rw [List.take_of_length_le]; simp [intsV_len]
    · have : O + 1 + j = g := by simpa [Value.ownBlock] using hg
      omega
  · intro i j x y hij hx hy
    right
    have hi : i < m.length := by have := (List.getElem?_eq_some_iff.1 hx).1; rwa [hdrSt_len] at this
    have hj : j < m.length := by have := (List.getElem?_eq_some_iff.1 hy).1; rwa [hdrSt_len] at this
    rw [hdrSt_get O m m.length i hi hi] at hx
    rw [hdrSt_get O m m.length j hj hj] at hy
    obtain rfl := Option.some.inj hx
    obtain rfl := Option.some.inj hy
    simp only [hdr, Value.ownBlock]
    intro e
    have := Option.some.inj e
    omega

/-! ### Marks -/
def markL (k n : Nat) : List Int := (List.range n).map fun i => ((k + i : Nat) : Int)
theorem markL_len (k n : Nat) : (markL k n).length = n := by simp [markL]
def markSt (l : List Int) (k j : Nat) : List Int := markL k j ++ l.drop j
theorem markSt_len (l : List Int) (k j : Nat) (h : j ≤ l.length) : (markSt l k j).length = l.length := by simp [markSt, markL_len]; omega
theorem markSt_zero (l : List Int) (k : Nat) : markSt l k 0 = l := by simp [markSt, markL]
theorem markSt_end (l : List Int) (k : Nat) : markSt l k l.length = markL k l.length := by simp [markSt]
theorem markSt_step (l : List Int) (k j : Nat) (h : j < l.length) : (markSt l k j).set j ((k + j : Nat) : Int) = markSt l k (j + 1) := by
  unfold markSt
  have h1 : markL k (j + 1) = markL k j ++ [((k + j : Nat) : Int)] := by simp [markL, List.range_succ]
  rw [h1, List.append_assoc, List.set_append_right _ _ (by rw [markL_len]; exact Nat.le_refl _), markL_len, Nat.sub_self, List.drop_eq_getElem_cons h]
  rfl
theorem intsV_set (l : List Int) (j : Nat) (x : Int) : (intsV l).set j (.int .i64 x) = intsV (l.set j x) := by simp [intsV, List.map_set]

set_option maxHeartbeats 1000000 in
set_option maxRecDepth 100000 in
theorem markS_any (A B : Nat) (v : Value) (l : List Int) (k : Nat) (w : World) (h : RowI A B w v l) (hk : k + l.length ≤ 1099511627776) :
    Calls Try.prog 38 #[v, .int .i64 k] w fun e w' => e = .returned (.int .i64 ((k + l.length : Nat) : Int)) ∧ RowI A B w' v (markL k l.length) ∧ w.grownBy w' v.ownBlock ∧ w'.heap.size = w.heap.size := by
  obtain ⟨h1, h2⟩ := h
  have hend := markSt_end l k
  rcases h1.2 with ⟨rfl, h0⟩ | ⟨g, cap, cur, rfl, hA, hg, hn, hc, hs, ht⟩
  · rw [h0]
    go_enter Try.func38, Try.ntmps38
    go_wp2_with fail
    go_loop [1, 5] (fun q i => q = .int .i64 k ∧ i = .int .i64 0) (fun _ _ => 0)
    case atStart => exact ⟨rfl, rfl⟩
    case round =>
      obtain ⟨rfl, rfl⟩ := hrel
      go_wp2_with fail
      go_ret
      exact ⟨rfl, ⟨World.ownsRow_nil _ _ _ _, h2⟩, World.grownBy.refl _ _, rfl⟩
  · have H2 := Lib.hid h2; clear h2 hA hg hn hc hs ht cur
    have HEND := Lib.hid hend; clear hend
    have h1' : w.ownsRow A 3 1 (.slice (some ⟨g, 0, none⟩) l.length cap) l.length (intsV (markSt l k 0)) := by rw [markSt_zero]; exact h1
    have H1 := Lib.hid h1'; clear h1 h1'
    generalize hln : l.length = n at *
    have HN := Lib.hid hln; clear hln
    go_enter Try.func38, Try.ntmps38
    go_wp2_with fail
    go_loopw [1, 5] (fun q i wr => ∃ j : Nat, j ≤ n ∧ i = .int .i64 j ∧ q = .int .i64 ((k + j : Nat) : Int) ∧ wr.ownsRow A 3 1 (.slice (some ⟨g, 0, none⟩) n cap) n (intsV (markSt l k j)) ∧ w.grownBy wr (some g) ∧ wr.heap.size = w.heap.size) (fun _ i _ => n - (intOf i).toNat)
    case atStart => exact ⟨0, Nat.zero_le _, rfl, rfl, H1.out, World.grownBy.refl _ _, rfl⟩
    case round =>
      obtain ⟨j, hj, rfl, rfl, hown, hgr, hsz⟩ := hrel
      have HO := Lib.hid hown; clear hown
      have HG := Lib.hid hgr; clear hgr
      have HSZ := Lib.hid hsz; clear hsz
      by_cases hlt : j < n
      · rename_i wr
        have hjl : j < l.length := by rw [HN.out]; exact hlt
        have hcell : wr.cell? ⟨g, j, none⟩ = (intsV (markSt l k j))[j]? := HO.out.cellAt j (by omega)
        have hlen := markSt_len l k j (by omega)
        have hcell2 : ∃ c, wr.cell? ⟨g, j, none⟩ = some c := ⟨_, hcell.trans (List.getElem?_eq_getElem (by rw [intsV_len]; omega))⟩
        obtain ⟨c, hc⟩ := hcell2
        have hfz : wr.frozen? ⟨g, j, none⟩ = false := HO.out.frozenAt j
        obtain ⟨hst, hgs⟩ := HO.out.stored j (.int .i64 ((k + j : Nat) : Int))
        rw [intsV_set, markSt_step l k j hjl] at hst
        have HST := Lib.hid hst; clear hst
        have HGS := Lib.hid (grown_trans HG.out hgs); clear hgs hcell hlen
        go_wp2_with fail
        exact ⟨⟨j + 1, by omega, by go_num, by go_num, HST.out, HGS.out, by rw [World.size_setCell]; exact HSZ.out⟩, by simp [intOf]; omega⟩
      · obtain rfl : j = n := by omega
        go_wp2_with fail
        go_ret
        exact ⟨rfl, ⟨by rw [markL_len, ← HEND.out]; exact HO.out, H2.out⟩, HG.out, HSZ.out⟩

set_option maxHeartbeats 1000000 in
set_option maxRecDepth 100000 in
theorem heldS_any (B : Nat) (v : Value) (n k : Nat) (w : World) (h : RowB B w v (markL k n)) (hk : k + n ≤ 1099511627776) :
    Calls Try.prog 39 #[v, .int .i64 k] w fun e w' => e = .returned (.int .i64 ((k + n : Nat) : Int)) ∧ w = w' := by
  obtain ⟨a, cap, rfl⟩ := h.slice
  have HR := Lib.hid h; clear h
  rw [markL_len] at HR ⊢
  go_enter Try.func39, Try.ntmps39
  go_wp2_with fail
  go_loop [1, 5] (fun q i => ∃ j : Nat, j ≤ n ∧ i = .int .i64 j ∧ q = .int .i64 ((k + j : Nat) : Int)) (fun _ i => n - (intOf i).toNat)
  case atStart => exact ⟨0, Nat.zero_le _, rfl, rfl⟩
  case round =>
    obtain ⟨j, hj, rfl, rfl⟩ := hrel
    by_cases hlt : j < n
    · obtain ⟨b, off, hkl, rfl, hb, hc⟩ := HR.out.get hlt
      have hx : (markL k n)[j] = ((k + j : Nat) : Int) := by simp [markL]
      rw [hx] at hc
      clear hx
      go_wp2_with fail
      go_round
      case rel => exact ⟨j + 1, by omega, by go_num, by go_num⟩
      case measure => simp [intOf]; omega
    · obtain rfl : j = n := by omega
      go_wp2_with fail
      go_ret
      exact ⟨rfl, rfl⟩

/-! ### Marks in a matrix -/
def offs (m : List (List Int)) (j : Nat) : Nat := ((m.take j).map List.length).sum
theorem offs_succ {m : List (List Int)} {j : Nat} (h : j < m.length) : offs m (j + 1) = offs m j + m[j].length := sum_take_succ m j h
theorem offs_le (m : List (List Int)) (j : Nat) : offs m j ≤ (m.map List.length).sum := sum_take_le m j
theorem offs_zero (m : List (List Int)) : offs m 0 = 0 := rfl
theorem offs_all (m : List (List Int)) : offs m m.length = (m.map List.length).sum := by unfold offs; rw [List.take_length]
/-- The matrix with its first j rows marked. -/
def markMt (m : List (List Int)) (k j : Nat) : List (List Int) := (List.range m.length).map fun i => if i < j then markL (k + offs m i) (m.getD i []).length else m.getD i []
def markM (m : List (List Int)) (k : Nat) : List (List Int) := markMt m k m.length
theorem markMt_len (m : List (List Int)) (k j : Nat) : (markMt m k j).length = m.length := by simp [markMt]
theorem markMt_zero (m : List (List Int)) (k : Nat) : markMt m k 0 = m := by
  apply List.ext_getElem
  · simp [markMt]
  · intro i h1 h2; simp [markMt, List.getD, h2]
theorem markMt_done {m : List (List Int)} {k j i : Nat} (hi : i < m.length) (hj : i < j) : (markMt m k j)[i]'(by rw [markMt_len]; exact hi) = markL (k + offs m i) m[i].length := by
  simp [markMt, hj, List.getD, hi]
theorem markMt_not {m : List (List Int)} {k j i : Nat} (hi : i < m.length) (hj : ¬ i < j) : (markMt m k j)[i]'(by rw [markMt_len]; exact hi) = m[i] := by
  simp [markMt, hj, List.getD, hi]

/-- A row in a block of ints is no row of headers. -/
theorem own_other {w : World} {A A' : Nat} {u v : Value} {n n' : Nat} {xs ys : List Value} (h : w.ownsRow A 3 1 u n xs) (h' : w.ownsRow A' 25 1 v n' ys) : v.ownBlock = none ∨ v.ownBlock ≠ u.ownBlock := by
  rcases h'.2 with ⟨rfl, _⟩ | ⟨g', cap', cur', rfl, _, hg', _⟩
  · exact Or.inl rfl
  · right
    rcases h.2 with ⟨rfl, _⟩ | ⟨g, cap, cur, rfl, _, hg, _⟩
    · simp [Value.ownBlock]
    · intro e
      have e2 : g' = g := by simpa [Value.ownBlock] using e
      subst e2
      rw [hg] at hg'
      have := Option.some.inj hg'
      simp at this

theorem RowI.kept {A B : Nat} {w w' : World} {v : Value} {l : List Int} {S : Option Nat} (h : RowI A B w v l) (hg : w.grownBy w' S) (hne : v.ownBlock = none ∨ v.ownBlock ≠ S) : RowI A B w' v l := ⟨h.1.kept hg hne, h.2⟩

/-- One row of a matrix of the call's own is written: the matrix with that row. -/
theorem mat_row {A B : Nat} {w w' : World} {v : Value} {m m' : List (List Int)} {hs : List Value} {j : Nat} {hv : Value}
    (h1 : w.ownsRow A 25 1 v m.length hs) (h3 : ∀ i (h : i < m.length), ∃ x, hs[i]? = some x ∧ RowI A B w x m[i])
    (h4 : ∀ (i j : Nat) (x y : Value), i ≠ j → hs[i]? = some x → hs[j]? = some y → x.ownBlock = none ∨ x.ownBlock ≠ y.ownBlock)
    (hj : hs[j]? = some hv) (hg : w.grownBy w' hv.ownBlock) (hlen : m'.length = m.length) (hown : w.ownsRow A 3 1 hv (m.getD j []).length (intsV (m.getD j [])))
    (hrow : ∀ h : j < m'.length, RowI A B w' hv m'[j]) (hot : ∀ i (h : i < m.length), i ≠ j → ∃ h' : i < m'.length, m'[i] = m[i]) :
    w'.ownsRow A 25 1 v m'.length hs ∧ ∀ i (h : i < m'.length), ∃ x, hs[i]? = some x ∧ RowI A B w' x m'[i] := by
  refine ⟨by rw [hlen]; exact h1.kept hg (own_other hown h1), fun i hi => ?_⟩
  by_cases e : i = j
  · subst e
    exact ⟨hv, hj, hrow hi⟩
  · obtain ⟨x, h5, h6⟩ := h3 i (by omega)
    obtain ⟨h7, h8⟩ := hot i (by omega) e
    rw [h8]
    exact ⟨x, h5, h6.kept hg (h4 i j x hv e h5 hj)⟩

/-- The matrix's own blocks: what may be written when it is marked. -/
structure Only (A B : Nat) (w w' : World) : Prop where
  os : w'.os = w.os
  tape : w'.tape = w.tape
  output : w'.output = w.output
  size : w'.heap.size = w.heap.size
  block : ∀ k, ¬ (A ≤ k ∧ k < B) → w'.heap[k]? = w.heap[k]?
theorem Only.refl (A B : Nat) (w : World) : Only A B w w := ⟨rfl, rfl, rfl, rfl, fun _ _ => rfl⟩
theorem Only.trans {A B : Nat} {a b c : World} (h : Only A B a b) (k : Only A B b c) : Only A B a c :=
  ⟨k.os.trans h.os, k.tape.trans h.tape, k.output.trans h.output, k.size.trans h.size, fun i hi => (k.block i hi).trans (h.block i hi)⟩
theorem Only.of_grown {A B : Nat} {w w' : World} {S : Option Nat} (hg : w.grownBy w' S) (hs : w'.heap.size = w.heap.size) (hS : ∀ g, S = some g → A ≤ g ∧ g < B) : Only A B w w' := by
  refine ⟨hg.os, hg.tape, hg.output, hs, fun k hk => ?_⟩
  by_cases h : k < w.heap.size
  · exact hg.block k h (fun e => hk (hS k e.symm))
  · rw [Array.getElem?_eq_none (by omega), Array.getElem?_eq_none (by omega)]
theorem Only.sameIn {A B C D : Nat} {w w' : World} (h : Only A B w w') (hd : D ≤ A ∨ B ≤ C) : SameIn C D w w' := fun k h1 h2 => h.block k (by omega)
theorem Only.below {A B : Nat} {W w w' : World} {C : Nat} (h : Only A B w w') (hC : C ≤ A) (hb : Below C W w) : Below C W w' :=
  hb.trans ⟨h.os, h.tape, h.output, Nat.le_of_eq h.size.symm, fun k hk => h.block k (by omega)⟩

def MarkSt (A B : Nat) (w : World) (v : Value) (m : List (List Int)) (k j : Nat) (hs : List Value) : Prop :=
  w.ownsRow A 25 1 v (markMt m k j).length hs ∧ ∀ i (h : i < (markMt m k j).length), ∃ x, hs[i]? = some x ∧ RowI A B w x (markMt m k j)[i]
theorem mark_step {A B : Nat} {w w' : World} {v : Value} {m : List (List Int)} {hs : List Value} {k j : Nat} {hv : Value} (hjl : j < m.length) (h : MarkSt A B w v m k j hs)
    (h4 : ∀ (i j : Nat) (x y : Value), i ≠ j → hs[i]? = some x → hs[j]? = some y → x.ownBlock = none ∨ x.ownBlock ≠ y.ownBlock)
    (hj : hs[j]? = some hv) (hg : w.grownBy w' hv.ownBlock) (hrow : RowI A B w' hv (markL (k + offs m j) m[j].length)) : MarkSt A B w' v m k (j + 1) hs := by
  have hl := markMt_len m k j
  have hl' := markMt_len m k (j + 1)
  have hgd : (markMt m k j).getD j [] = m[j] := by
    have : (markMt m k j).getD j [] = (markMt m k j)[j]'(by omega) := by simp [List.getD, hl, hjl]
    rw [this, markMt_not hjl (by omega)]
  obtain ⟨x, hx, hx2⟩ := h.2 j (by omega)
  obtain rfl : hv = x := Option.some.inj (hj.symm.trans hx)
  rw [markMt_not hjl (by omega)] at hx2
  refine mat_row h.1 h.2 h4 hj hg (by omega) (by rw [hgd]; exact hx2.1) (fun h5 => ?_) (fun i hi hne => ⟨by omega, ?_⟩)
  · rw [markMt_done hjl (by omega)]; exact hrow
  · by_cases hij : i < j
    · rw [markMt_done (by omega) hij, markMt_done (by omega) (by omega)]
    · rw [markMt_not (by omega) hij, markMt_not (by omega) (by omega)]

set_option maxHeartbeats 1000000 in
set_option maxRecDepth 100000 in
theorem markSS_any (A B : Nat) (v : Value) (m : List (List Int)) (k : Nat) (w : World) (h : MatI A B w v m) (hk : k + (m.map List.length).sum ≤ 1099511627776) (hm : m.length ≤ 1048576) :
    Calls Try.prog 40 #[v, .int .i64 k] w fun e w' => e = .returned (.int .i64 ((k + (m.map List.length).sum : Nat) : Int)) ∧ MatI A B w' v (markM m k) ∧ Only A B w w' := by
  obtain ⟨a, cap, rfl⟩ := h.slice
  obtain ⟨hs, h1, h2, h3, h4⟩ := h
  have HAM : Hid (MarkSt A B w (.slice a m.length cap) m k 0 hs) := by
    show MarkSt A B w (.slice a m.length cap) m k 0 hs
    unfold MarkSt
    rw [markMt_zero]
    exact ⟨h1, h3⟩
  have H2 := Lib.hid h2; clear h2 h1 h3
  have H4 := Lib.hid h4; clear h4
  have hoff := offs_all m
  have HOFF := Lib.hid hoff; clear hoff
  have hole := offs_le m
  have HOLE := Lib.hid hole; clear hole
  generalize hsum : (m.map List.length).sum = S at *
  have HSUM := Lib.hid hsum; clear hsum
  generalize hln : m.length = n at *
  have HN := Lib.hid hln; clear hln
  go_enter Try.func40, Try.ntmps40
  go_wp2_with fail
  go_loopw [1, 5] (fun q i wr => ∃ (j : Nat) (wq : World), wq = wr ∧ j ≤ n ∧ i = .int .i64 j ∧ q = .int .i64 ((k + offs m j : Nat) : Int) ∧ MarkSt A B wq (.slice a n cap) m k j hs ∧ Only A B w wq) (fun _ i _ => n - (intOf i).toNat)
  case atStart => exact ⟨0, _, rfl, Nat.zero_le _, rfl, rfl, HAM.out, Only.refl _ _ _⟩
  case round =>
    obtain ⟨j, wr, rfl, hj, rfl, rfl, hst, honly⟩ := hrel
    have HST := Lib.hid hst; clear hst
    have HO := Lib.hid honly; clear honly
    by_cases hlt : j < n
    · have hjl : j < m.length := by rw [HN.out]; exact hlt
      obtain ⟨hv, hx, hrow⟩ := HST.out.2 j (by rw [markMt_len]; exact hjl)
      rw [markMt_not hjl (by omega)] at hrow
      obtain ⟨ra, rcap, rfl⟩ := hrow.slice
      have hown := HST.out.1
      have hslot : ∃ g, a = some ⟨g, 0, none⟩ ∧ wr.cell? ⟨g, j, none⟩ = some (.slice ra m[j].length rcap) := by
        rcases hown.2 with ⟨hnil, h0⟩ | ⟨g, cap', cur, hval, _⟩
        · rw [markMt_len] at h0; omega
        · have ha : a = some ⟨g, 0, none⟩ := by injection hval
          subst ha
          refine ⟨g, rfl, ?_⟩
          have hown2 : wr.ownsRow A 25 1 (.slice (some ⟨g, 0, none⟩) n cap) n hs := by
            have := hown
            rw [markMt_len, HN.out] at this
            exact this
          rw [hown2.cellAt j (by omega)]
          exact hx
      obtain ⟨g, rfl, hcell⟩ := hslot
      clear hown
      have hb1 := HOLE.out (j + 1)
      rw [offs_succ hjl] at hb1
      have hcon := markS_any A B _ _ (k + offs m j) wr hrow (by omega)
      have hnext : k + offs m j + m[j].length = k + offs m (j + 1) := by rw [offs_succ hjl]; omega
      rw [hnext] at hcon
      have hstep : ∀ w', RowI A B w' (.slice ra m[j].length rcap) (markL (k + offs m j) m[j].length) → wr.grownBy w' (Value.slice ra m[j].length rcap).ownBlock → MarkSt A B w' (.slice (some ⟨g, 0, none⟩) n cap) m k (j + 1) hs :=
        fun w' h5 h6 => mark_step hjl HST.out H4.out hx h6 h5
      have honly2 : ∀ w', wr.grownBy w' (Value.slice ra m[j].length rcap).ownBlock → w'.heap.size = wr.heap.size → Only A B w w' := fun w' h6 h7 =>
        HO.out.trans (Only.of_grown h6 h7 (fun g hg => ⟨(hrow.1.lt g hg).1, hrow.2 g hg⟩))
      have HCON := Lib.hid hcon; clear hcon hnext hb1
      have HSTEP := Lib.hid hstep; clear hstep
      have HONLY := Lib.hid honly2; clear honly2 hrow hx
      generalize m[j].length = rn at *
      go_wp2_with fail
      refine HCON.out.mono ?_
      rintro e w2 ⟨rfl, h5, h6, h7⟩
      have h8 := HSTEP.out w2 h5 h6
      have h9 := HONLY.out w2 h6 h7
      have H8 := Lib.hid h8
      have H9 := Lib.hid h9
      clear h5 h6 h7 h8 h9
      go_wp2_with fail
      exact ⟨⟨j + 1, _, rfl, by omega, by go_num, rfl, H8.out, H9.out⟩, by simp [intOf]; omega⟩
    · obtain rfl : j = n := by omega
      go_wp2_with fail
      go_ret
      refine ⟨ret_int (by rw [HOFF.out]), ?_, HO.out⟩
      have hm := HST.out
      unfold MarkSt at hm
      unfold markM
      rw [HN.out]
      exact ⟨hs, hm.1, H2.out, hm.2, H4.out⟩

theorem markM_len (m : List (List Int)) (k : Nat) : (markM m k).length = m.length := markMt_len _ _ _
theorem markM_get {m : List (List Int)} {k i : Nat} (hi : i < m.length) : (markM m k)[i]'(by rw [markM_len]; exact hi) = markL (k + offs m i) m[i].length := markMt_done hi hi

end Go.Proofs.Ytbmghddmilgngaa
namespace Go.Proofs.Ytbmghddmilgngaa
open Go.ChangeShapes Go.WideShapes Go.ChangeAt Go.ChangeMaps Go.RowKit Go.Deep

set_option maxRecDepth 100000 in
theorem mat_open {H : Type} {enc : TypeId × Value → H} {W : World} {base : Nat} {v : Value} {d : DataW H} {ps : List MemPlace} (hval : Value.okWide Try.prog W .any base 24 v)
    (h : DataW.Trod enc Try.prog W 0 (fun _ => true) true 24 v d ps) : ∃ m : List (List Int), MatB W.heap.size W v m ∧ RowsFit m := by
  obtain ⟨a0, len, cap, rfl⟩ := okWide_slice Try.underlying24 hval
  obtain ⟨fuel, hf⟩ := h
  have ce : Try.prog.cellsOf 25 = 1 := by kernel_rfl
  have cq : Try.prog.cellsOf 3 = 1 := by kernel_rfl
  rcases open_int_rows Try.underlying24 Try.underlying25 Try.underlying3 ce cq hf with ⟨hcs, _⟩ | ⟨a, len', cap', A, L, C, Z, hcs, _, hl, hm, _, hrow⟩
  · simp [Value.cells] at hcs
    obtain ⟨rfl, rfl, rfl⟩ := hcs
    exact ⟨[], Or.inl ⟨rfl, none, 0, rfl⟩, Nat.zero_le _, fun j hj => by simp at hj⟩
  · simp [Value.cells] at hcs
    obtain ⟨rfl, rfl, rfl⟩ := hcs
    refine ⟨(List.range len).map fun r => (Z r).take (L r), ?_, ?_⟩
    · by_cases hl0 : len = 0
      · subst hl0
        exact Or.inl ⟨rfl, _, _, rfl⟩
      · obtain ⟨b, off, spot⟩ := a
        have h0 := (hrow 0 (by omega)).1
        have hspot : spot = none := by simpa [Addr.add] using World.cell?_spot h0
        subst hspot
        have hb : b < W.heap.size := by
          have := World.block_lt_of_cell? W _ h0
          simpa [Addr.add] using this
        refine Or.inr ⟨b, off, cap, by simp, hb, fun j hj => ?_⟩
        have hj' : j < len := by simpa using hj
        obtain ⟨h1, h2, h3, h4, h5, h6, h7⟩ := hrow j (by omega)
        have hadd : (⟨b, off, none⟩ : Addr).add j = ⟨b, off + j, none⟩ := by unfold Addr.add; split <;> simp_all
        rw [hadd] at h1
        refine ⟨_, h1, ?_⟩
        simp only [List.getElem_map, List.getElem_range]
        by_cases hz : L j = 0
        · exact Or.inl ⟨by rw [hz]; simp, _, _, by rw [hz]⟩
        · cases hA : A j with
          | none => have := h6 hA; omega
          | some a' =>
            obtain ⟨_, h8⟩ := h7 a' hA
            obtain ⟨b', off', spot'⟩ := a'
            have h9 := h8 0 (by omega)
            have hspot' : spot' = none := by simpa [Addr.add] using World.cell?_spot h9
            subst hspot'
            have hb' : b' < W.heap.size := by
              have := World.block_lt_of_cell? W _ h9
              simpa [Addr.add] using this
            have hlen : ((Z j).take (L j)).length = L j := by rw [List.length_take]; omega
            refine Or.inr ⟨b', off', C j, by rw [hlen], hb', fun c hc => ?_⟩
            have hc' : c < L j := by omega
            have hadd' : (⟨b', off', none⟩ : Addr).add c = ⟨b', off' + c, none⟩ := by unfold Addr.add; split <;> simp_all
            have h10 := h8 c (by omega)
            rw [hadd'] at h10
            rw [h10]
            simp [List.getD, show c < (Z j).length by omega]
    · refine ⟨by simp; omega, fun j hj => ?_⟩
      have hj' : j < len := by simpa using hj
      obtain ⟨h1, h2, h3, h4, _⟩ := hrow j (by omega)
      simp only [List.getElem_map, List.getElem_range, List.length_take]
      omega
theorem small_of {m : List (List Int)} (h : szSum m ≤ 1048576) : Small m := by
  unfold szSum at h
  refine ⟨by omega, fun j hj => ?_⟩
  have h1 := sum_take_succ m j hj
  have h2 := sum_take_le m (j + 1)
  omega
end Go.Proofs.Ytbmghddmilgngaa
