/-
  Roots: what the model's order, search and insertion return.
  TransposeCartan of the program: what the call returns.
  Roots: what the model's SimpleRoot and WeightOfRoot return.
-/
import Derived.Test.YtlbgblkoddlhnaaRa15
import Derived.Test.YtlbgblkoddlhnaaRa10
import Derived.Test.YtlbgblkoddlhnaaRa13
namespace Go.Proofs.Ytlbgblkoddlhnaa
open Go.RowKit

set_option maxHeartbeats 4000000 in
set_option maxRecDepth 100000 in
theorem befs_any (B B' : Nat) (v v' : Value) (l l' : List Int) (w : World) (h : RowB B w v l) (h' : RowB B' w v' l') (hl : l.length ≤ maxLen) (hl' : l'.length ≤ maxLen) :
    Calls Try.prog 78 #[v, v'] w fun e w' => e = .returned (.bool (befB l l')) ∧ ∃ q, w' = w.drewN q := by
  have HG := Lib.hid (hgts_any B v l w h hl)
  have HG' := Lib.hid (hgts_any B' v' l' w h' hl')
  obtain ⟨a, cap, rfl⟩ := h.slice
  obtain ⟨a', cap', rfl⟩ := h'.slice
  have HL := Lib.hid h; have HL' := Lib.hid h'
  clear h h'
  unfold maxLen at hl hl'
  have HLT := Lib.hid (fun h => bef_lt (a := l) (b := l') h)
  have HEQ := Lib.hid (fun h => bef_eq (a := l) (b := l') h)
  have HDF := Lib.hid (fun k h ha hb hn => gt_diff (a := l) (b := l') (k := k) h ha hb hn)
  have HEN := Lib.hid (fun k h ha hb he => gt_end (a := l) (b := l') (k := k) h ha hb he)
  generalize befB l l' = R at *
  generalize gtL l l' = G at *
  generalize hgtL l = x at *
  generalize hgtL l' = y at *
  generalize hln : l.length = n at *
  generalize hln' : l'.length = n' at *
  have HLN := Lib.hid hln; have HLN' := Lib.hid hln'
  clear hln hln'
  by_cases hxy : x = y
  · subst hxy
    have HV := Lib.hid (HEQ.out rfl)
    rw [HV.out]
    have hne : (x != x) = false := by simp
    clear HLT HEQ HV
    go_enter Try.func78, Try.ntmps78
    go_wp2_with fail
    refine HG.out.mono ?_
    rintro e w1 ⟨rfl, rfl⟩
    go_wp2_with fail
    refine HG'.out.mono ?_
    rintro e w1 ⟨rfl, rfl⟩
    go_wp2_with fail
    go_loopw [7] (fun i wr => ∃ (k q : Nat), k ≤ n ∧ k ≤ n' ∧ i = .int .i64 k ∧ wr = w1.drewN q ∧ Hid (SameTo l l' k)) (fun i _ => n - (intOf i).toNat)
    case atStart => exact ⟨0, 0, Nat.zero_le _, Nat.zero_le _, rfl, rfl, Lib.hid (sameTo_zero _ _)⟩
    case round =>
      obtain ⟨k, q, hk, hk', rfl, rfl, hs⟩ := hrel
      by_cases hlt : k < n ∧ k < n'
      · obtain ⟨h1, h2⟩ := hlt
        have hd1 : decide (k < n) = true := decide_eq_true h1
        have hd2 : decide (k < n') = true := decide_eq_true h2
        obtain ⟨b, off, rfl, hb, hc⟩ := HL.out.getD h1
        obtain ⟨b', off', rfl, hb', hc'⟩ := HL'.out.getD h2
        by_cases he : l.getD k 0 = l'.getD k 0
        · have HST := Lib.hid (sameTo_step hs.out he)
          have hn0 : (l.getD k 0 != l'.getD k 0) = false := by rw [bne_eq_false_iff_eq]; exact he
          clear he hs hb hb'
          generalize l.getD k 0 = z at *
          generalize l'.getD k 0 = z' at *
          go_wp2_with fail
          go_quiet (fail)
          go_wp2_with fail
          exact ⟨⟨k + 1, q + nq, by omega, by omega, by go_num, by first | rfl | exact World.drewN_drewN _ _ _, HST⟩, by simp [intOf]; omega⟩
        · have HV := Lib.hid (HDF.out k hs.out h1 h2 he)
          have hn0 : (l.getD k 0 != l'.getD k 0) = true := by rw [bne_iff_ne]; exact he
          clear he hs hb hb'
          generalize l.getD k 0 = z at *
          generalize l'.getD k 0 = z' at *
          go_wp2_with fail
          go_quiet (fail)
          go_wp2_with fail
          go_quiet (fail)
          go_wp2_with fail
          go_ret
          exact ⟨ret_boolean HV.out.symm, _, by first | rfl | rw [World.drewN_drewN, World.drewN_drewN] | rw [World.drewN_drewN]⟩
      · have hcase : decide (k < n) = false ∨ (decide (k < n) = true ∧ decide (k < n') = false) := by
          by_cases h : k < n
          · exact Or.inr ⟨decide_eq_true h, decide_eq_false (by omega)⟩
          · exact Or.inl (decide_eq_false h)
        have HV := Lib.hid (HEN.out k hs.out hk hk' (by omega))
        clear hs
        rcases hcase with hd | ⟨hd, hd2⟩
        · go_wp2_with fail
          go_ret
          exact ⟨ret_boolean HV.out.symm, q, rfl⟩
        · go_wp2_with fail
          go_ret
          exact ⟨ret_boolean HV.out.symm, q, rfl⟩
  · have HV := Lib.hid (HLT.out hxy)
    have hne : (x != y) = true := by rw [bne_iff_ne]; exact hxy
    clear HLT HEQ HDF HEN hxy
    go_enter Try.func78, Try.ntmps78
    go_wp2_with fail
    refine HG.out.mono ?_
    rintro e w1 ⟨rfl, rfl⟩
    go_wp2_with fail
    refine HG'.out.mono ?_
    rintro e w1 ⟨rfl, rfl⟩
    go_wp2_with fail
    go_ret
    exact ⟨ret_boolean HV.out.symm, 0, rfl⟩

/-! ### A root in a list -/
def InTo (L : List (List Int)) (r : List Int) (k : Nat) : Prop := ∀ j, j < k → L.getD j [] ≠ r
theorem inTo_zero (L : List (List Int)) (r : List Int) : InTo L r 0 := fun _ h => absurd h (Nat.not_lt_zero _)
theorem inTo_step {L : List (List Int)} {r : List Int} {k : Nat} (h : InTo L r k) (hk : L.getD k [] ≠ r) : InTo L r (k + 1) := fun j hj => by
  rcases Nat.lt_or_ge j k with h' | h'
  · exact h j h'
  · obtain rfl : j = k := by omega
    exact hk
def inRB (L : List (List Int)) (r : List Int) : Bool := decide (r ∈ L)
theorem inRB_no {L : List (List Int)} {r : List Int} (h : InTo L r L.length) : inRB L r = false := decide_eq_false fun hm => by
  obtain ⟨j, hj, e⟩ := List.getElem_of_mem hm
  exact h j hj (by simp [List.getD, hj, e])
theorem inRB_yes {L : List (List Int)} {r : List Int} {k : Nat} (hk : k < L.length) (h : L.getD k [] = r) : inRB L r = true := decide_eq_true (by
  have e : L.getD k [] = L[k] := by simp [List.getD, hk]
  rw [← h, e]; exact List.getElem_mem hk)
theorem MatB.rowD {B : Nat} {w : World} {a : Option Addr} {n cap : Nat} {m : List (List Int)} (h : MatB B w (.slice a n cap) m) {j : Nat} (hj : j < n) :
    ∃ b off ra rcap, j < m.length ∧ a = some ⟨b, off, none⟩ ∧ b < B ∧ w.cell? ⟨b, off + j, none⟩ = some (.slice ra (m.getD j []).length rcap) ∧ RowB B w (.slice ra (m.getD j []).length rcap) (m.getD j []) := by
  obtain ⟨b, off, hjl, rfl, hb, ra, rcap, hc, hr⟩ := h.get hj
  have e := getD_row m j hjl
  exact ⟨b, off, ra, rcap, hjl, rfl, hb, by rw [e]; exact hc, by rw [e]; exact hr⟩
set_option maxHeartbeats 4000000 in
set_option maxRecDepth 100000 in
theorem ins_any (B B' : Nat) (v v' : Value) (L : List (List Int)) (r : List Int) (w : World) (h : MatB B w v L) (h' : RowB B' w v' r) (hf : RowsFit L) (hr : r.length ≤ maxLen) :
    Calls Try.prog 62 #[v, v'] w fun e w' => e = .returned (.bool (inRB L r)) ∧ ∃ q, w' = w.drewN q := by
  have hlm := hf.1
  obtain ⟨a, cap, rfl⟩ := h.slice
  have HR := Lib.hid h; have HL := Lib.hid h'; have HF := Lib.hid hf
  have HRL := Lib.hid hr
  clear h h' hf hr
  unfold maxLen at hlm
  have HNO := Lib.hid (fun h => inRB_no (L := L) (r := r) h)
  have HYES := Lib.hid (fun k hk h => inRB_yes (L := L) (r := r) (k := k) hk h)
  generalize inRB L r = R at *
  generalize hn : L.length = n at *
  have HN := Lib.hid hn
  clear hn
  go_enter Try.func62, Try.ntmps62
  go_wp2_with fail
  go_loopw [5] (fun i wr => ∃ (k q : Nat), k ≤ n ∧ i = .int .i64 k ∧ wr = w.drewN q ∧ Hid (InTo L r k)) (fun i _ => n - (intOf i).toNat)
  case atStart => exact ⟨0, 0, Nat.zero_le _, rfl, rfl, Lib.hid (inTo_zero _ _)⟩
  case round =>
    obtain ⟨k, q, hk, rfl, rfl, hs⟩ := hrel
    by_cases hlt : k < n
    · have hd1 : decide (k < n) = true := decide_eq_true hlt
      obtain ⟨b, off, ra, rcap, hkl, rfl, hb, hc, hrow⟩ := HR.out.rowD hlt
      have hfk : (L.getD k []).length ≤ maxLen := by rw [getD_row L k hkl]; exact HF.out.2 k hkl
      have HE := Lib.hid (eqws_any (max B B') _ v' (L.getD k []) r (w.drewN q) (hrow.drewN q |>.mono (Nat.le_max_left _ _)) (HL.out.drewN q |>.mono (Nat.le_max_right _ _)) hfk HRL.out)
      have HY := Lib.hid (HYES.out k hlt)
      have HST := Lib.hid (fun h => inTo_step (L := L) (r := r) (k := k) hs.out h)
      have HEB := Lib.hid (show eqwB (L.getD k []) r = decide (L.getD k [] = r) from by
        unfold eqwB; rw [decide_eq_decide]; exact cmpW_zero)
      clear hs hrow hfk hb
      generalize L.getD k [] = x at *
      generalize eqwB x r = eb at *
      by_cases he : x = r
      · have hV := HY.out he
        rw [HEB.out, decide_eq_true he] at HE
        have HV := Lib.hid hV
        clear hV HY HST HEB he
        generalize x.length = xn at *
        go_wp2_with fail
        refine HE.out.mono ?_
        rintro e w1 ⟨rfl, nq, rfl⟩
        go_wp2_with fail
        go_ret
        exact ⟨ret_boolean HV.out.symm, _, by first | rfl | exact World.drewN_drewN _ _ _⟩
      · have HS := Lib.hid (HST.out he)
        rw [HEB.out, decide_eq_false he] at HE
        clear HY HST HEB he
        generalize x.length = xn at *
        go_wp2_with fail
        refine HE.out.mono ?_
        rintro e w1 ⟨rfl, nq, rfl⟩
        go_wp2_with fail
        exact ⟨⟨k + 1, q + nq, by omega, by go_num, by first | rfl | exact World.drewN_drewN _ _ _, HS⟩, by simp [intOf]; omega⟩
    · obtain rfl : k = n := by omega
      have hd : decide (k < k) = false := by simp
      have HV := Lib.hid (HNO.out hs.out)
      clear hs
      go_wp2_with fail
      go_ret
      exact ⟨ret_boolean HV.out.symm, q, rfl⟩
end Go.Proofs.Ytlbgblkoddlhnaa
namespace Go.Proofs.Ytlbgblkoddlhnaa
open Go.RowKit

def zerosR (n : Nat) : List Int := List.replicate n 0
def zeros (n : Nat) : List (List Int) := List.replicate n (zerosR n)
theorem zeros_len (n : Nat) : (zeros n).length = n := by simp [zeros]
theorem zeros_get (n k : Nat) (h : k < (zeros n).length) : (zeros n)[k] = zerosR n := by simp [zeros]
theorem zerosR_len (n : Nat) : (zerosR n).length = n := by simp [zerosR]
theorem zeros_small (n : Nat) (h : n ≤ 1048576) : Small (zeros n) := ⟨by rw [zeros_len]; exact h, fun j hj => by rw [zeros_get, zerosR_len]; exact h⟩

theorem makeInts (n : Nat) (hn : n ≤ 1048576) (w : World) : (Instr.makeSlice 23 (.int .i64 n) (.int .i64 n)).run Try.prog w = .ok (.slice (some ⟨w.heap.size, 0, none⟩) n n) (w.alloc (.cells (intsV (zerosR n)).toArray 3)) := by
  obtain ⟨i0, hi, hz0, hz1, hz2⟩ := info_parts Try.infoInt
  have h := run_make (P := Try.prog) w 23 3 i0 (.int .i64 0) Try.underlying23 hi hz0 .i64 .i64 (n : Int) (n : Int) (by omega) (Int.le_refl _) (by rw [hz2]; omega) (by omega)
  rw [h, hz1, Nat.mul_one, Int.toNat_natCast]
  unfold zerosR
  rw [← madeI64]
theorem makeRows (n : Nat) (hn : n ≤ 1048576) (w : World) (m : List (List Int)) (hm : m.length = n) : (Instr.makeSlice 22 (.int .i64 n) (.int .i64 n)).run Try.prog w = .ok (.slice (some ⟨w.heap.size, 0, none⟩) n n) (w.alloc (.cells (hdrSt w.heap.size m 0).toArray 23)) := by
  obtain ⟨i0, hi, hz0, hz1, hz2⟩ := info_parts Try.infoRow
  have h := run_make (P := Try.prog) w 22 23 i0 (.slice none 0 0) Try.underlying22 hi hz0 .i64 .i64 (n : Int) (n : Int) (by omega) (Int.le_refl _) (by rw [hz2]; omega) (by omega)
  rw [h, hz1, Nat.mul_one, hdrSt_zero, hm, ← madeRows, Int.toNat_natCast]

set_option maxHeartbeats 1000000 in
set_option maxRecDepth 100000 in
theorem zm_any (n : Nat) (w : World) (hn : n ≤ 1048576) :
    Calls Try.prog 123 #[.int .i64 n] w (MakesM w (zeros n)) := by
  have hmk := makeRows n hn w (zeros n) (zeros_len n)
  go_enter Try.func123, Try.ntmps123
  go_wp2_with fail
  clear hmk
  go_loopw [9] (fun i wr => ∃ (k : Nat) (wq : World), wq = wr ∧ k ≤ n ∧ i = .int .i64 k ∧ CopySt w.heap.size (zeros n) k wq ∧ Below w.heap.size w wq) (fun i _ => n - (intOf i).toNat)
  case atStart => exact ⟨0, _, rfl, Nat.zero_le _, rfl, ⟨(MapKept.heap_alloc w _).1, by simp, fun j _ hj => by omega⟩, (Below.refl _ _).alloc (Nat.le_refl _) _⟩
  case round =>
    obtain ⟨k, wr, rfl, hk, rfl, hcp, hb⟩ := hrel
    have HC := Lib.hid hcp; clear hcp
    have HB := Lib.hid hb; clear hb
    by_cases hlt : k < n
    · have hkl : k < (zeros n).length := by rw [zeros_len]; exact hlt
      have hsz := HC.out.2.1
      have HSZ := Lib.hid hsz
      have hst := copy_step HC.out hkl
      have hhd := hdr_eq w.heap.size (zeros n) k hkl
      rw [hhd, zeros_get, zerosR_len] at hst
      have HST := Lib.hid hst; clear hst hhd
      have hbs : Below w.heap.size w ((wr.alloc (.cells (intsV (zerosR n)).toArray 3)).setCell ⟨w.heap.size, k, none⟩ (.slice (some ⟨w.heap.size + 1 + k, 0, none⟩) n n)) :=
        (HB.out.alloc (by omega) _).setCell (Nat.le_refl _) _
      have HBS := Lib.hid hbs; clear hbs
      have hmk := makeInts n hn wr
      rw [hsz] at hmk
      obtain ⟨hO, _, _⟩ := HC.out
      have hO2 : (wr.alloc (.cells (intsV (zerosR n)).toArray 3)).heap[w.heap.size]? = some (.cells (hdrSt w.heap.size (zeros n) k).toArray 23 (0, 0)) := by
        rw [(MapKept.heap_alloc wr _).2 _ (by omega)]; exact hO
      have hold : (wr.alloc (.cells (intsV (zerosR n)).toArray 3)).cell? ⟨w.heap.size, k, none⟩ = some (.slice none 0 0) := by
        rw [cell_of_row _ _ k _ _ _ hO2]
        have := hdrSt_old w.heap.size (zeros n) k hkl
        simpa using this
      have hfz : (wr.alloc (.cells (intsV (zerosR n)).toArray 3)).frozen? ⟨w.heap.size, k, none⟩ = false := frozen_of_row _ _ k _ _ hO2
      clear hO hO2 hsz
      generalize hw1 : wr.alloc (.cells (intsV (zerosR n)).toArray 3) = w1 at *
      have HW1 := Lib.hid hw1; clear hw1
      go_wp2_with fail
      exact ⟨⟨k + 1, _, rfl, by omega, by go_num, HST.out, HBS.out⟩, by simp [intOf]; omega⟩
    · obtain rfl : k = n := by omega
      go_wp2_with fail
      go_ret
      have hc : CopySt w.heap.size (zeros k) (zeros k).length wr := by rw [zeros_len]; exact HC.out
      have h1 := hc.matI (zeros_small k hn)
      have h2 := hc.2.1
      rw [zeros_len] at h1 h2
      exact ⟨_, rfl, ⟨h1.mono (Nat.le_refl _) (by omega), Nat.le_refl _⟩, HB.out⟩

/-! ### Entries set column by column -/
def stR (m : List (List Int)) (n k j r : Nat) : List Int := (List.range n).map fun c => if c < k ∨ (c = k ∧ r < j) then entry m c r else 0
def stM (m : List (List Int)) (n k j : Nat) : List (List Int) := (List.range n).map fun r => stR m n k j r
theorem stM_len (m : List (List Int)) (n k j : Nat) : (stM m n k j).length = n := by simp [stM]
theorem stR_len (m : List (List Int)) (n k j r : Nat) : (stR m n k j r).length = n := by simp [stR]
theorem stM_get (m : List (List Int)) (n k j r : Nat) (h : r < n) : (stM m n k j).getD r [] = stR m n k j r := by simp [stM, List.getD, h]
theorem stM_zero (m : List (List Int)) (n : Nat) : stM m n 0 0 = zeros n := by
  apply List.ext_getElem
  · simp [stM, zeros]
  · intro i h1 h2
    simp only [stM, zeros, zerosR, List.getElem_map, List.getElem_range, List.getElem_replicate, stR]
    apply List.ext_getElem
    · simp
    · intro c h3 h4; simp
theorem stM_next (m : List (List Int)) (n k : Nat) : stM m n k n = stM m n (k + 1) 0 := by
  apply List.ext_getElem
  · simp [stM]
  · intro i h1 h2
    have hi : i < n := by simpa [stM] using h1
    simp only [stM, List.getElem_map, List.getElem_range, stR]
    apply List.ext_getElem
    · simp
    · intro c h3 h4
      simp only [List.getElem_map, List.getElem_range]
      by_cases hc : c ≤ k
      · rw [if_pos (by omega), if_pos (by omega)]
      · rw [if_neg (by omega), if_neg (by omega)]
theorem stM_end (m : List (List Int)) (n : Nat) : stM m n n 0 = trN m n := by
  apply List.ext_getElem
  · simp [stM, trN]
  · intro i h1 h2
    simp only [stM, trN, List.getElem_map, List.getElem_range, stR, colR]
    apply List.ext_getElem
    · simp
    · intro c h3 h4
      have hc : c < n := by simpa using h3
      simp [hc]
theorem stM_step (m : List (List Int)) (n k j : Nat) (_hk : k < n) (hj : j < n) : set2 (stM m n k j) j k (entry m k j) = stM m n k (j + 1) := by
  apply List.ext_getElem
  · simp [stM, set2]
  · intro i h1 h2
    have hi : i < n := by simpa [stM] using h2
    by_cases hij : i = j
    · subst hij
      rw [set2_at, stM_get m n k i i hi]
      simp only [stM, List.getElem_map, List.getElem_range, stR]
      apply List.ext_getElem
      · simp
      · intro c h3 h4
        rw [List.getElem_set]
        simp only [List.getElem_map, List.getElem_range]
        by_cases hc : k = c
        · subst hc
          rw [if_pos rfl, if_pos (by omega)]
        · rw [if_neg hc]
          by_cases hlt : c < k
          · rw [if_pos (by omega), if_pos (by omega)]
          · rw [if_neg (by omega), if_neg (by omega)]
    · rw [set2_ne _ _ _ _ _ _ (by rw [stM_len]; exact hi) hij]
      simp only [stM, List.getElem_map, List.getElem_range, stR]
      apply List.ext_getElem
      · simp
      · intro c h3 h4
        simp only [List.getElem_map, List.getElem_range]
        by_cases hc : c < k ∨ (c = k ∧ i < j)
        · rw [if_pos hc, if_pos (by omega)]
        · rw [if_neg hc, if_neg (by omega)]

theorem trM_small (m : List (List Int)) : szSum (trM m) ≤ 1048576 := by
  by_cases hI : IsC m
  · rw [trM_yes hI]
    have h4 := hI.2.2.2
    have : ∀ n k, ((List.range k).map fun i => colR m n i).map List.length = List.replicate k n := by
      intro n k
      apply List.ext_getElem
      · simp
      · intro i h1 h2; simp [colR]
    unfold szSum
    rw [trN_len]
    unfold trN
    rw [this, List.sum_replicate_nat]
    have : m.length * m.length ≤ 4 * 4 := Nat.mul_le_mul h4 h4
    omega
  · rw [trM_no hI]; decide
end Go.Proofs.Ytlbgblkoddlhnaa
namespace Go.Proofs.Ytlbgblkoddlhnaa
open Go.RowKit

theorem unit_new (w1 : World) (n k : Nat) (hn : n ≤ 1048576) : RowI w1.heap.size (w1.alloc (.cells ((intsV (zerosR n)).set k (.int .i64 1)).toArray 3)).heap.size (w1.alloc (.cells ((intsV (zerosR n)).set k (.int .i64 1)).toArray 3)) (.slice (some ⟨w1.heap.size, 0, none⟩) n n) (unitR n k) := by
  have e : (intsV (zerosR n)).set k (.int .i64 1) = intsV (unitR n k) := by rw [intsV_set]; rfl
  have hl : (unitR n k).length = n := unitR_len n k
  rw [e]
  refine ⟨by rw [hl]; exact World.ownsRow_lit (base := w1.heap.size) (e := 3) (size := 1) w1 (intsV (unitR n k)).toArray n (Nat.le_refl _) (by unfold maxLen; omega) (by simp [intsV, hl]), fun g hg => ?_⟩
  have : w1.heap.size = g := by simpa [Value.ownBlock] using hg
  simp; omega
set_option maxHeartbeats 4000000 in
set_option maxRecDepth 100000 in
theorem sims_any (B : Nat) (v : Value) (m : List (List Int)) (i : Int) (w : World) (h : MatB B w v m) (_hB : B ≤ w.heap.size) (hf : RowsFit m) :
    Calls Try.prog 32 #[v, .int .i64 i] w (MakesS w (simR m i)) := by
  have HIS := Lib.hid (fun c (hc : isB m = c) => isc_w B v m c hc w h hf)
  have hlm := hf.1
  obtain ⟨a, cap, rfl⟩ := h.slice
  clear h hf
  unfold maxLen at hlm
  by_cases hI : IsC m
  · have HC := Lib.hid (HIS.out true (isB_yes hI))
    have hn4 := hI.2.2.2
    by_cases hi : 0 ≤ i ∧ i ≤ (m.length : Int) - 1
    · have HV := Lib.hid (simR_yes ⟨hI, hi⟩)
      have HIN := Lib.hid (inB_yes (x := i) (a := 0) (b := (m.length : Int) - 1) hi)
      obtain ⟨k, rfl⟩ := Int.eq_ofNat_of_zero_le hi.1
      have hk : k < m.length := by omega
      rw [HV.out]
      simp only [Int.toNat_natCast]
      clear hI HIS HV hi
      generalize m.length = n at *
      go_enter Try.func32, Try.ntmps32
      go_wp2_with fail
      refine HC.out.mono ?_
      rintro e w1 ⟨rfl, hb⟩
      have HB1 := Lib.hid hb
      clear hb
      go_wp2_with fail
      refine (l1in_c _ _ _ true HIN.out _).mono ?_
      rintro e w' ⟨rfl, rfl⟩
      have hmk := makeInts n (by omega) w1
      have hkz : k < (intsV (zerosR n)).length := by rw [intsV_len]; show k < (List.replicate n (0 : Int)).length; simp; omega
      have hun := (unit_new w1 n k (by omega)).mono HB1.out.size (Nat.le_refl _)
      have hbn : Below w.heap.size w (w1.alloc (.cells ((intsV (zerosR n)).set k (.int .i64 1)).toArray 3)) := HB1.out.alloc HB1.out.size _
      have HST := Lib.hid hun; have HGS := Lib.hid hbn
      clear hun hbn
      go_wp2_with fail
      go_ret
      exact ⟨_, rfl, ⟨HST.out, Nat.le_refl _⟩, HGS.out⟩
    · have HV := Lib.hid (simR_no (m := m) (i := i) (fun h => hi h.2))
      have HIN := Lib.hid (inB_no hi)
      rw [HV.out]
      clear hI HIS HV hi
      generalize m.length = n at *
      go_enter Try.func32, Try.ntmps32
      go_wp2_with fail
      refine HC.out.mono ?_
      rintro e w1 ⟨rfl, hb⟩
      have HB1 := Lib.hid hb
      clear hb
      go_wp2_with fail
      refine (l1in_c _ _ _ false HIN.out _).mono ?_
      rintro e w' ⟨rfl, rfl⟩
      go_wp2_with fail
      go_ret
      exact ⟨_, rfl, ⟨(row_empty w1).mono HB1.out.size (Nat.le_refl _), Nat.le_refl _⟩, HB1.out.alloc HB1.out.size _⟩
  · have HC := Lib.hid (HIS.out false (isB_no hI))
    rw [simR_no (fun h => hI h.1)]
    clear hI HIS
    generalize m.length = n at *
    go_enter Try.func32, Try.ntmps32
    go_wp2_with fail
    refine HC.out.mono ?_
    rintro e w1 ⟨rfl, hb⟩
    have HB1 := Lib.hid hb
    clear hb
    go_wp2_with fail
    go_ret
    exact ⟨_, rfl, ⟨(row_empty w1).mono HB1.out.size (Nat.le_refl _), Nat.le_refl _⟩, HB1.out.alloc HB1.out.size _⟩

end Go.Proofs.Ytlbgblkoddlhnaa
