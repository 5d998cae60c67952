/-
  The determinant by choosing a column for each row (no walk here): the sum over the columns that are left is the expansion along the first row.
  DeterminantOf of the program: the closure over the rows, and what the call returns.
  DeterminantOf of the program: what the call returns.
-/
import Derived.Test.YtnlbmnielemgiaaGreatEz19
import Derived.Deep.RegionHeld3
import Derived.OneCell
import Derived.Scope
import Derived.Laws.EntriesVeiled
import Derived.Test.YtnlbmnielemgiaaGreatEz21
namespace Go.Proofs.YtnlbmnielemgiaaGreat
open Go.RowKit

/-! ### Signs of a choice -/
def sgnC (j : Nat) : List Nat → Int
  | [] => 1
  | c :: l => if j < c then -sgnC j l else sgnC j l
/-- The sign behind the first i columns of the choice. -/
def sgnT (j : Nat) (ch : List Nat) (i : Nat) : Int := sgnC j (ch.take i)
theorem sgnC_snoc (j c : Nat) (l : List Nat) : sgnC j (l ++ [c]) = if j < c then -sgnC j l else sgnC j l := by
  induction l with
  | nil => rfl
  | cons x l ih =>
    show (if j < x then -sgnC j (l ++ [c]) else sgnC j (l ++ [c])) = _
    rw [ih]
    show _ = if j < c then -(if j < x then -sgnC j l else sgnC j l) else (if j < x then -sgnC j l else sgnC j l)
    split <;> split <;> simp
theorem sgnC_one (j : Nat) (l : List Nat) : sgnC j l = 1 ∨ sgnC j l = -1 := by
  induction l with
  | nil => exact Or.inl rfl
  | cons x l ih =>
    show (if j < x then -sgnC j l else sgnC j l) = 1 ∨ (if j < x then -sgnC j l else sgnC j l) = -1
    split
    · rcases ih with h | h <;> rw [h] <;> simp
    · exact ih
/-! ### The sum over the columns that are left -/
def expF (m : List (List Int)) (n : Nat) : Nat → List Nat → Int
  | 0, _ => 1
  | k + 1, ch => ((List.range n).map fun j => if ch.contains j then 0 else sgnC j ch * entry m ch.length j * expF m n k (ch ++ [j])).sum
def expT (m : List (List Int)) (n k : Nat) (ch : List Nat) (j : Nat) : Int := if ch.contains j then 0 else sgnC j ch * entry m ch.length j * expF m n k (ch ++ [j])
def expS (m : List (List Int)) (n k : Nat) (ch : List Nat) (j : Nat) : Int := ((List.range j).map (expT m n k ch)).sum
theorem expS_step (m : List (List Int)) (n k : Nat) (ch : List Nat) (j : Nat) : expS m n k ch (j + 1) = expS m n k ch j + expT m n k ch j := by
  unfold expS
  rw [List.range_succ, List.map_append, List.sum_append]
  simp
theorem expS_end (m : List (List Int)) (n k : Nat) (ch : List Nat) : expS m n k ch n = expF m n (k + 1) ch := rfl
/-- 4, 4 * 3 * 4, .. : what a sum comes to at most. -/
def eB : Nat → Int
  | 0 => 1
  | n + 1 => 4 * (3 * eB n)
theorem eB_nonneg (n : Nat) : 0 ≤ eB n := by
  induction n with
  | zero => decide
  | succ n ih => exact Int.mul_nonneg (by omega) (by omega)
theorem expT_bd {m : List (List Int)} {n k : Nat} {ch : List Nat} {j : Nat} (hb : Bd m) (h : -(eB k) ≤ expF m n k (ch ++ [j]) ∧ expF m n k (ch ++ [j]) ≤ eB k) : -(3 * eB k) ≤ expT m n k ch j ∧ expT m n k ch j ≤ 3 * eB k := by
  have h0 := eB_nonneg k
  unfold expT
  split
  · omega
  · have hx : -3 ≤ sgnC j ch * entry m ch.length j ∧ sgnC j ch * entry m ch.length j ≤ 3 := by
      have := hb ch.length j
      rcases sgnC_one j ch with h1 | h1 <;> rw [h1] <;> omega
    exact mul_le3 hx h h0
theorem expS_bd {m : List (List Int)} {n k : Nat} {ch : List Nat} (hb : Bd m) (h : ∀ j, -(eB k) ≤ expF m n k (ch ++ [j]) ∧ expF m n k (ch ++ [j]) ≤ eB k) (j : Nat) :
    -((j : Int) * (3 * eB k)) ≤ expS m n k ch j ∧ expS m n k ch j ≤ (j : Int) * (3 * eB k) := by
  induction j with
  | zero => simp [expS]
  | succ j ih =>
    rw [expS_step]
    have h1 := expT_bd hb (h j)
    have e : ((j + 1 : Nat) : Int) * (3 * eB k) = (j : Int) * (3 * eB k) + 3 * eB k := by rw [Int.natCast_succ, Int.add_mul, Int.one_mul]
    rw [e]
    omega
theorem expF_bd {m : List (List Int)} {n : Nat} (hn : n ≤ 4) (hb : Bd m) (k : Nat) : ∀ ch, -(eB k) ≤ expF m n k ch ∧ expF m n k ch ≤ eB k := by
  induction k with
  | zero => intro ch; show -(1 : Int) ≤ 1 ∧ (1 : Int) ≤ 1; decide
  | succ k ih =>
    intro ch
    rw [← expS_end]
    have h1 := expS_bd (n := n) (ch := ch) hb (fun j => ih (ch ++ [j])) n
    have h0 := eB_nonneg k
    have h2 : (n : Int) * (3 * eB k) ≤ 4 * (3 * eB k) := Int.mul_le_mul_of_nonneg_right (by omega) (by omega)
    show -(4 * (3 * eB k)) ≤ _ ∧ _ ≤ 4 * (3 * eB k)
    omega
theorem eB_small (n : Nat) (h : n ≤ 4) : eB n ≤ 20736 := by
  rcases (show n = 0 ∨ n = 1 ∨ n = 2 ∨ n = 3 ∨ n = 4 by omega) with rfl | rfl | rfl | rfl | rfl <;> decide
/-! ### It is the determinant -/
theorem exp_det1 (m : List (List Int)) : expF m 1 1 [] = detF 1 m := by
  simp [expF, detF, sgnC, sgn, entry, List.range_succ, List.getD]
theorem exp_det2 (m : List (List Int)) : expF m 2 2 [] = detF 2 m := by
  have e : ∀ i j, ((m[i]?.getD [])[j]?.getD 0) = entry m i j := fun i j => by simp [entry, List.getD]
  simp [expF, detF, sgnC, sgn, wdM, wdR, keepC, List.range_succ, List.contains, List.elem]
  simp [entry, List.getD]
  simp only [e]
  grind
theorem exp_det3 (m : List (List Int)) : expF m 3 3 [] = detF 3 m := by
  have e : ∀ i j, ((m[i]?.getD [])[j]?.getD 0) = entry m i j := fun i j => by simp [entry, List.getD]
  simp [expF, detF, sgnC, sgn, wdM, wdR, keepC, List.range_succ, List.contains, List.elem]
  simp [entry, List.getD]
  simp only [e]
  grind
set_option maxHeartbeats 2000000 in
theorem exp_det4 (m : List (List Int)) : expF m 4 4 [] = detF 4 m := by
  have e : ∀ i j, ((m[i]?.getD [])[j]?.getD 0) = entry m i j := fun i j => by simp [entry, List.getD]
  simp [expF, detF, sgnC, sgn, wdM, wdR, keepC, List.range_succ, List.contains, List.elem]
  simp [entry, List.getD]
  simp only [e]
  grind
theorem exp_det (m : List (List Int)) (n : Nat) (h : n ≤ 4) : expF m n n [] = detF n m := by
  rcases (show n = 0 ∨ n = 1 ∨ n = 2 ∨ n = 3 ∨ n = 4 by omega) with rfl | rfl | rfl | rfl | rfl
  · rfl
  · exact exp_det1 m
  · exact exp_det2 m
  · exact exp_det3 m
  · exact exp_det4 m
end Go.Proofs.YtnlbmnielemgiaaGreat
namespace Go.Proofs.YtnlbmnielemgiaaGreat
open Go.RowKit

/-- The three variables that the closure shares: the matrix, the columns chosen so far (the rest of the four cells is of no matter), the closure itself. -/
structure Vars (B Bc Bh Be : Nat) (v : Value) (m : List (List Int)) (ch : List Nat) (w : World) : Prop where
  c : w.heap[Bc]? = some (.cells #[v] 24 (0, 0))
  e : w.heap[Be]? = some (.cells #[.func (.func 108) #[] #[.pointer (some ⟨Bc, 0, none⟩), .pointer (some ⟨Bh, 0, none⟩), .pointer (some ⟨Be, 0, none⟩)]] 111 (0, 0))
  h : ∃ cells : Array Value, w.heap[Bh]? = some (.cells cells 49 (0, 0)) ∧ cells.size = 4 ∧ ∀ i, i < ch.length → cells[i]? = some (.int .i64 (ch.getD i 0 : Nat))
  m : MatB B w v m
theorem Vars.below {B Bc Bh Be : Nat} {v : Value} {m : List (List Int)} {ch : List Nat} {w w' : World} {C : Nat} (h : Vars B Bc Bh Be v m ch w) (hb : Below C w w') (h1 : Bc < C) (h2 : Bh < C) (h3 : Be < C) (h4 : B ≤ C) : Vars B Bc Bh Be v m ch w' :=
  ⟨(hb.block _ h1).trans h.c, (hb.block _ h3).trans h.e, by obtain ⟨cells, hc, hx⟩ := h.h; exact ⟨cells, (hb.block _ h2).trans hc, hx⟩, h.m.below hb h4⟩
theorem Vars.cut {B Bc Bh Be : Nat} {v : Value} {m : List (List Int)} {ch : List Nat} {j : Nat} {w : World} (h : Vars B Bc Bh Be v m (ch ++ [j]) w) : Vars B Bc Bh Be v m ch w :=
  ⟨h.c, h.e, by
    obtain ⟨cells, hc, hs, hx⟩ := h.h
    refine ⟨cells, hc, hs, fun i hi => ?_⟩
    rw [hx i (by rw [List.length_append]; exact Nat.lt_of_lt_of_le hi (Nat.le_add_right _ _)), List.getD_eq_getElem?_getD, List.getElem?_append_left hi, ← List.getD_eq_getElem?_getD], h.m⟩
/-- The next column is chosen. -/
theorem Vars.put {B Bc Bh Be : Nat} {v : Value} {m : List (List Int)} {ch : List Nat} {w : World} (h : Vars B Bc Bh Be v m ch w) (j : Nat) (h1 : B ≤ Bc) (h2 : Bc < Bh) (h3 : Bh < Be) (hl : ch.length < 4) :
    Vars B Bc Bh Be v m (ch ++ [j]) (w.setCell ⟨Bh, ch.length, none⟩ (.int .i64 j)) := by
  obtain ⟨cells, hc, hs, hx⟩ := h.h
  refine ⟨(Below.heap_setCell _ _ _ _ (by show Bc ≠ Bh; omega)).trans h.c, (Below.heap_setCell _ _ _ _ (by show Be ≠ Bh; omega)).trans h.e, ⟨cells.setIfInBounds ch.length (.int .i64 j), ?_, by simp [hs], fun i hi => ?_⟩, h.m.below ((Below.refl B w).setCell (by show B ≤ Bh; omega) _) (Nat.le_refl _)⟩
  · have hlt := lt_of_block hc
    have h' : w.heap[Bh] = .cells cells 49 (0, 0) := by simpa [Array.getElem?_eq_getElem hlt] using hc
    show (w.heap.modify Bh _)[Bh]? = _
    rw [Array.getElem?_eq_getElem (by simpa using hlt), Array.getElem_modify_self, h']
    simp [Array.setIfInBounds]
  · rw [List.length_append] at hi
    by_cases he : i = ch.length
    · subst he
      rw [Array.getElem?_setIfInBounds]
      simp [hs, hl, List.getD]
    · have hi' : i < ch.length := by simp at hi; omega
      rw [Array.getElem?_setIfInBounds, if_neg (by omega), hx i hi', List.getD_eq_getElem?_getD (l := ch ++ [j]), List.getElem?_append_left hi', ← List.getD_eq_getElem?_getD]
theorem Vars.col {B Bc Bh Be : Nat} {v : Value} {m : List (List Int)} {ch : List Nat} {w : World} (h : Vars B Bc Bh Be v m ch w) {i : Nat} (hi : i < ch.length) : w.cell? ⟨Bh, i, none⟩ = some (.int .i64 (ch.getD i 0 : Nat)) := by
  obtain ⟨cells, hc, hs, hx⟩ := h.h
  simp only [World.cell?, hc]
  exact hx i hi
theorem Vars.old {B Bc Bh Be : Nat} {v : Value} {m : List (List Int)} {ch : List Nat} {w : World} (h : Vars B Bc Bh Be v m ch w) (i : Nat) (hi : i < 4) : ∃ u, w.cell? ⟨Bh, i, none⟩ = some u := by
  obtain ⟨cells, hc, hs, hx⟩ := h.h
  simp only [World.cell?, hc]
  exact ⟨cells[i], by simp [hs, hi]⟩
theorem Vars.free {B Bc Bh Be : Nat} {v : Value} {m : List (List Int)} {ch : List Nat} {w : World} (h : Vars B Bc Bh Be v m ch w) (i : Nat) : w.frozen? ⟨Bh, i, none⟩ = false := by
  obtain ⟨cells, hc, hs, hx⟩ := h.h
  simp [World.frozen?, hc]
set_option maxRecDepth 100000 in
theorem slice_chosen (Bh L : Nat) (h : L ≤ 4) (w : World) : (Instr.sliceAt 49 (.pointer (some ⟨Bh, 0, none⟩)) none (some (.int .i64 L)) none).run Tryz.prog w = .ok (.slice (some ⟨Bh, 0, none⟩) L 4) w := by
  have hA : Tryz.prog.underlying 49 = some (.array (Tryz.prog.arrayLen 49) (Tryz.prog.elem 49)) := by kernel_rfl
  have h4 : Tryz.prog.arrayLen 49 = 4 := by kernel_rfl
  have he : Tryz.prog.elem 49 = 3 := by kernel_rfl
  rw [run_sliceAt_array_h w 49 ⟨Bh, 0, none⟩ hA .i64 L (by omega) (by rw [h4]; omega), he, h4]
  have hs : (sizeOf 3).run Tryz.prog w = .ok 1 w := by rfl
  rw [hs]
  simp [slicedAt, Addr.add]
theorem sgnT_step (j : Nat) (ch : List Nat) (i : Nat) (h : i < ch.length) : sgnT j ch (i + 1) = if j < ch.getD i 0 then -sgnT j ch i else sgnT j ch i := by
  unfold sgnT
  rw [List.take_succ_eq_append_getElem h, sgnC_snoc]
  simp [List.getD, h]
theorem sgnT_one (j : Nat) (ch : List Nat) (i : Nat) : sgnT j ch i = 1 ∨ sgnT j ch i = -1 := sgnC_one _ _
set_option maxRecDepth 100000 in
theorem contains_at {ch : List Nat} {i j : Nat} (h : i < ch.length) (he : ch.getD i 0 = j) : ch.contains j = true := by
  rw [List.contains_iff_mem]
  subst he
  simp [List.getD, h]
theorem contains_not {ch : List Nat} {j : Nat} (h : ∀ i, i < ch.length → ch.getD i 0 ≠ j) : ch.contains j = false := by
  rw [Bool.eq_false_iff]
  intro hc
  rw [List.contains_iff_mem] at hc
  obtain ⟨i, hi, he⟩ := List.getElem_of_mem hc
  exact h i hi (by simp [List.getD, hi, he])

set_option maxHeartbeats 4000000 in
set_option maxRecDepth 100000 in
theorem clo_any (n k : Nat) : ∀ (B Bc Bh Be : Nat) (v : Value) (m : List (List Int)) (ch : List Nat) (w : World), n ≤ 4 → m.length = n → Rows0 m n n → Bd m → ch.length + k = n → Vars B Bc Bh Be v m ch w → B ≤ Bc → Bc < Bh → Bh < Be →
    Calls Tryz.prog 108 #[.int .i64 ch.length, .pointer (some ⟨Bc, 0, none⟩), .pointer (some ⟨Bh, 0, none⟩), .pointer (some ⟨Be, 0, none⟩)] w fun e w' => e = .returned (.int .i64 (expF m n k ch)) ∧ Vars B Bc Bh Be v m ch w' ∧ Below Bh w w' := by
  induction k with
  | zero =>
    intro B Bc Bh Be v m ch w h4 hn hr hbd hk hV hB1 hB2 hB3
    obtain ⟨a, cap, rfl⟩ := hV.m.slice
    have cC := cell_of_one hV.c
    have HV := Lib.hid hV; clear hV
    generalize hL : ch.length = L at *
    have HL := Lib.hid hL; clear hL
    obtain rfl : L = n := by omega
    rw [hn] at cC
    go_enter Tryz.func108, Tryz.ntmps108
    go_wp2_with fail
    refine wp_scope_straight ?_
    go_wp2_with fail
    simp only [Exit.noGoto]
    go_ret
    exact ⟨rfl, HV.out, Below.refl _ _⟩
  | succ k ih =>
    intro B Bc Bh Be v m ch w h4 hn hr hbd hk hV hB1 hB2 hB3
    obtain ⟨a, cap, rfl⟩ := hV.m.slice
    have cC := cell_of_one hV.c
    have hR := hV.m
    have HV := Lib.hid hV; clear hV
    have HBD := Lib.hid hbd
    have HRW := Lib.hid hr; clear hr
    generalize hL : ch.length = L at *
    have HL := Lib.hid hL; clear hL
    have HIH := Lib.hid ih; clear ih
    have HN := Lib.hid hn
    rw [hn] at cC
    clear hbd
    have hlt : L < n := by omega
    obtain ⟨b, off, rb, roff, rcap, rfl, hbB, hrB, hc1, hxx⟩ := (show MatB B w (.slice a n cap) m by rw [← hn]; exact hR).line HRW.out hlt
    have HXX := Lib.hid hxx; clear hxx hR
    have hne : ((L : Int) == (n : Int)) = false := by rw [beq_eq_false_iff_ne]; omega
    have hltI : (L : Int) < (n : Int) := by omega
    clear hn
    go_enter Tryz.func108, Tryz.ntmps108
    go_wp2_with fail
    refine wp_scope_straight ?_
    go_wp2_with fail
    refine wp_label ?_
    rename_i K hK
    refine hK _ _ ?_
    go_wp2_with fail
    go_loopw [6, 21] (fun s i wr => ∃ (j : Nat) (t : Int) (wq : World), wq = wr ∧ j ≤ n ∧ i = .int .i64 j ∧ s = .int .i64 t ∧ Hid (t = expS m n k ch j) ∧ Vars B Bc Bh Be (.slice (some ⟨b, off, none⟩) m.length cap) m ch wq ∧ Below Bh w wq) (fun _ i _ => n - (intOf i).toNat)
    case atStart => exact ⟨0, 0, _, rfl, Nat.zero_le _, rfl, rfl, Lib.hid rfl, HV.out, Below.refl _ _⟩
    case round =>
      obtain ⟨j, t, wq, rfl, hj, rfl, rfl, ht, hVq, hbq⟩ := hrel
      have HVQ := Lib.hid hVq; clear hVq
      have HBQ := Lib.hid hbq; clear hbq
      by_cases hjn : j < n
      · have hjn' : decide (j < n) = true := decide_eq_true hjn
        have hxj := (HBQ.out.cell (p := ⟨rb, roff + j, none⟩) (show rb < Bh by omega)).trans (HXX.out j hjn)
        generalize hxe : entry m L j = x at *
        have HXE := Lib.hid hxe; clear hxe
        have hsl := slice_chosen Bh L (by omega)
        go_wp2_with fail
        clear hsl
        go_loopw [9, 29] (fun g i wr => ∃ (c : Nat) (sg : Int), c ≤ L ∧ i = .int .i64 c ∧ g = .int .i64 sg ∧ Hid (sg = sgnT j ch c) ∧ wr = wq ∧ Hid (∀ p, p < c → ch.getD p 0 ≠ j)) (fun _ i _ => L - (intOf i).toNat)
        case atStart => exact ⟨0, 1, Nat.zero_le _, rfl, rfl, Lib.hid rfl, rfl, Lib.hid (fun p hp => absurd hp (Nat.not_lt_zero _))⟩
        case round =>
          obtain ⟨c, sg, hc, rfl, rfl, hsg, rfl, hno⟩ := hrel
          by_cases hcl : c < L
          · have hcl' : decide (c < L) = true := decide_eq_true hcl
            have hcol := HVQ.out.col (i := c) (by rw [HL.out]; exact hcl)
            have hst := sgnT_step j ch c (by rw [HL.out]; exact hcl)
            by_cases heq : ch.getD c 0 = j
            · have hct := contains_at (by rw [HL.out]; exact hcl) heq
              rw [heq] at hcol
              have HEQ := Lib.hid (show t = expS m n k ch (j + 1) by
                rw [expS_step, ← ht.out]
                unfold expT
                rw [if_pos hct]; omega)
              clear hct hst
              go_wp2_with fail
              exact ⟨⟨j + 1, t, _, rfl, by omega, by go_num, rfl, HEQ, HVQ.out, HBQ.out⟩, by simp [intOf]; omega⟩
            · have HNO := Lib.hid (show ∀ p, p < c + 1 → ch.getD p 0 ≠ j from fun p hp => by
                rcases Nat.lt_or_ge p c with h' | h'
                · exact hno.out p h'
                · obtain rfl : p = c := by omega
                  exact heq)
              have hne2 : (((ch.getD c 0 : Nat) : Int) == (j : Int)) = false := by rw [beq_eq_false_iff_ne]; omega
              have hs1 := sgnT_one j ch c
              rw [← hsg.out] at hs1 hst
              generalize ch.getD c 0 = y at *
              by_cases hy : j < y
              · rw [if_pos hy] at hst
                have hy' : decide ((j : Int) < (y : Int)) = true := decide_eq_true (by omega)
                have HST := Lib.hid hst; clear hst
                rcases hs1 with rfl | rfl
                · go_wp2_with fail
                  exact ⟨⟨c + 1, _, by omega, by go_num, rfl, Lib.hid (by rw [HST.out]; try rfl), trivial, HNO⟩, by simp [intOf]; omega⟩
                · go_wp2_with fail
                  exact ⟨⟨c + 1, _, by omega, by go_num, rfl, Lib.hid (by rw [HST.out]; try rfl), trivial, HNO⟩, by simp [intOf]; omega⟩
              · rw [if_neg hy] at hst
                have hy' : decide ((j : Int) < (y : Int)) = false := decide_eq_false (by omega)
                have HST := Lib.hid hst; clear hst
                go_wp2_with fail
                exact ⟨⟨c + 1, _, by omega, by go_num, rfl, Lib.hid (by rw [HST.out]; try rfl), trivial, HNO⟩, by simp [intOf]; omega⟩
          · obtain rfl : c = L := by omega
            have hcl' : decide (c < c) = false := by simp
            have HNC := Lib.hid (contains_not (ch := ch) (j := j) (by rw [HL.out]; exact hno.out))
            have hs1 := sgnT_one j ch c
            have HSG := Lib.hid (show sg = sgnC j ch by rw [hsg.out]; unfold sgnT; rw [List.take_of_length_le (by rw [HL.out]; exact Nat.le_refl _)])
            rw [← hsg.out] at hs1
            obtain ⟨u, hold⟩ := HVQ.out.old c (by omega)
            have hfree := HVQ.out.free c
            have hV2 := HVQ.out.put j hB1 hB2 hB3 (by rw [HL.out]; omega)
            rw [HL.out] at hV2
            have hb2 : Below Bh wr (wr.setCell ⟨Bh, c, none⟩ (.int .i64 j)) := (Below.refl Bh wr).setCell (show Bh ≤ Bh from Nat.le_refl _) _
            have cE0 := cell_of_one HVQ.out.e
            have cE := cell_of_one hV2.e
            have hEh : Be ≠ Bh := by omega
            have HV2 := Lib.hid hV2
            have HB2 := Lib.hid hb2
            have HBW := Lib.hid (HBQ.out.trans hb2)
            clear hV2 hb2
            have hst := expS_step m n k ch j
            have hbd := fun j => expF_bd h4 HBD.out k (ch ++ [j])
            have hsb := expS_bd (n := n) (k := k) (ch := ch) HBD.out hbd j
            have hdb := hbd j
            have hIH := HIH.out B Bc Bh Be (.slice (some ⟨b, off, none⟩) m.length cap) m (ch ++ [j]) (wr.setCell ⟨Bh, c, none⟩ (.int .i64 j)) h4 HN.out HRW.out HBD.out (by rw [List.length_append, HL.out]; simp; omega) HV2.out hB1 hB2 hB3
            rw [show (((ch ++ [j]).length : Nat) : Int) = (c : Int) + 1 by rw [List.length_append, HL.out]; simp] at hIH
            have HIH2 := Lib.hid hIH
            clear hIH hbd
            have hek := eB_small k (by omega)
            have hek0 := eB_nonneg k
            unfold expT at hst
            rw [if_neg (by rw [HNC.out]; decide), HL.out, HXE.out, ← HSG.out, ← ht.out] at hst
            rw [← ht.out] at hsb
            have hxb := HBD.out c j
            rw [HXE.out] at hxb
            generalize expF m n k (ch ++ [j]) = d at *
            have hpb : -3 ≤ sg * x ∧ sg * x ≤ 3 := by rcases hs1 with h1 | h1 <;> rw [h1] <;> omega
            generalize hpe : sg * x = p at *
            have hqb := mul_le3 hpb hdb hek0
            generalize hqe : p * d = q at *
            have hn3 : (j : Int) * (3 * eB k) ≤ 4 * (3 * eB k) := Int.mul_le_mul_of_nonneg_right (by omega) (by omega)
            generalize (j : Int) * (3 * eB k) = N3 at *
            generalize eB k = E at *
            obtain ⟨hp1, hp2⟩ := hpb
            obtain ⟨hq1, hq2⟩ := hqb
            obtain ⟨ht1, ht2⟩ := hsb
            have hq3 : -62208 ≤ q := by omega
            have hq4 : q ≤ 62208 := by omega
            have ht3 : -248832 ≤ t := by omega
            have ht4 : t ≤ 248832 := by omega
            have HST := Lib.hid hst
            clear hst hq1 hq2 ht1 ht2 hek hek0 hdb hn3 hs1 hxb
            go_wp2_with (go_at_call 108; refine HIH2.out.mono ?_; rintro e w3 ⟨rfl, hv3, hb3⟩)
            have HV3 := Lib.hid hv3.cut
            have HB3 := Lib.hid (HBW.out.trans hb3)
            clear hv3 hb3
            exact ⟨⟨j + 1, t + q, _, rfl, by omega, by go_num, rfl, Lib.hid HST.out.symm, HV3.out, HB3.out⟩, by simp [intOf]; omega⟩
      · obtain rfl : j = n := by omega
        have hjn' : decide (j < j) = false := by simp
        have HEN := Lib.hid (expS_end m j k ch)
        go_wp2_with fail
        simp only [Exit.noGoto]
        go_ret
        exact ⟨by show Ending.returned (.int .i64 t) = _; rw [ht.out, HEN.out], HVQ.out, HBQ.out⟩
end Go.Proofs.YtnlbmnielemgiaaGreat
namespace Go.Proofs.YtnlbmnielemgiaaGreat
open Go.RowKit

theorem vars_new (w : World) (u : Value) : ((w.alloc (.cells #[.int .i64 0, .int .i64 0, .int .i64 0, .int .i64 0] 49)).alloc (.cells #[u] 111)).heap[w.heap.size + 1]? = some (.cells #[u] 111 (0, 0)) := by
  have hs1 : (w.alloc (.cells #[.int .i64 0, .int .i64 0, .int .i64 0, .int .i64 0] 49)).heap.size = w.heap.size + 1 := by simp
  rw [← hs1]; exact (MapKept.heap_alloc _ _).1
theorem vars_below (w : World) (u : Value) : Below w.heap.size w ((w.alloc (.cells #[.int .i64 0, .int .i64 0, .int .i64 0, .int .i64 0] 49)).alloc (.cells #[u] 111)) :=
  ((Below.refl _ _).alloc (Nat.le_refl _) _).alloc (by simp) _
theorem vars_start {B Bc : Nat} {v : Value} {m : List (List Int)} {w : World} (hc : w.heap[Bc]? = some (.cells #[v] 24 (0, 0))) (hM : MatB B w v m) (hB : B ≤ w.heap.size) :
    Vars B Bc w.heap.size (w.heap.size + 1) v m []
      ((w.alloc (.cells #[.int .i64 0, .int .i64 0, .int .i64 0, .int .i64 0] 49)).alloc (.cells #[.func (.func 108) #[] #[.pointer (some ⟨Bc, 0, none⟩), .pointer (some ⟨w.heap.size, 0, none⟩), .pointer (some ⟨w.heap.size + 1, 0, none⟩)]] 111)) := by
  have hlt := lt_of_block hc
  have h1 : Below w.heap.size w (w.alloc (.cells #[.int .i64 0, .int .i64 0, .int .i64 0, .int .i64 0] 49)) := (Below.refl _ _).alloc (Nat.le_refl _) _
  have hn := vars_new w (.func (.func 108) #[] #[.pointer (some ⟨Bc, 0, none⟩), .pointer (some ⟨w.heap.size, 0, none⟩), .pointer (some ⟨w.heap.size + 1, 0, none⟩)])
  have hb := vars_below w (.func (.func 108) #[] #[.pointer (some ⟨Bc, 0, none⟩), .pointer (some ⟨w.heap.size, 0, none⟩), .pointer (some ⟨w.heap.size + 1, 0, none⟩)])
  refine ⟨(hb.block _ hlt).trans hc, hn, ⟨#[.int .i64 0, .int .i64 0, .int .i64 0, .int .i64 0], ?_, rfl, fun i hi => by simp at hi⟩, hM.below hb hB⟩
  rw [Below.heap_alloc _ _ _ (by simp)]; exact (MapKept.heap_alloc w _).1

set_option maxHeartbeats 2000000 in
set_option maxRecDepth 100000 in
theorem deti_any (B : Nat) (v : Value) (m : List (List Int)) (w : World) (h : MatB B w v m) (hB : B ≤ w.heap.size) (hf : RowsFit m) :
    Calls Tryz.prog 100 #[v] w fun e w' => e = .returned (.int .i64 (detV m)) ∧ Below w.heap.size w w' := by
  obtain ⟨a, cap, rfl⟩ := h.slice
  generalize hvv : m.length = n at *
  have HLN := Lib.hid hvv; clear hvv
  have hc0 : (w.alloc (.cells #[.slice a n cap] 24)).heap[w.heap.size]? = some (.cells #[.slice a n cap] 24 (0, 0)) := (MapKept.heap_alloc w _).1
  have hb0 : Below w.heap.size w (w.alloc (.cells #[.slice a n cap] 24)) := (Below.refl _ _).alloc (Nat.le_refl _) _
  have hs0 : (w.alloc (.cells #[.slice a n cap] 24)).heap.size = w.heap.size + 1 := by simp
  have HR0 := Lib.hid (h.below hb0 hB)
  have HC0 := Lib.hid hc0; have HB0 := Lib.hid hb0; have HS0 := Lib.hid hs0
  have hcell := cell_of_one hc0
  clear hc0 hb0 hs0
  by_cases hI : IsC m
  · have HC := Lib.hid (isB_yes hI)
    have HV := Lib.hid ((detV_yes hI).trans (by rw [HLN.out]))
    have HX := Lib.hid (exp_det m n (by rw [← HLN.out]; exact hI.2.2.2))
    have HI := Lib.hid hI
    clear hI h
    generalize detV m = d at *
    go_enter Tryz.func100, Tryz.ntmps100
    go_wp2_with fail
    refine (icm_w B _ m true HC.out _ HR0.out hf).mono ?_
    rintro e w1 ⟨rfl, hb1⟩
    have hs0 := HS0.out
    have hs1 := hb1.size
    have hc1 := (hb1.block w.heap.size (by omega)).trans HC0.out
    have hcell1 := cell_of_one hc1
    have HV1 := Lib.hid (vars_start hc1 (HR0.out.below hb1 (by omega)) (by omega))
    have HB1 := Lib.hid hb1
    have hnew := vars_new w1 .nilFunc
    have hcn := cell_of_one hnew
    have hfn := free_of_one hnew
    have HBN := Lib.hid (hb1.mono (Nat.le_refl _))
    have hcE := cell_of_one HV1.out.e
    have hD := (clo_any n n B w.heap.size w1.heap.size (w1.heap.size + 1) (.slice a n cap) m [] _ (by rw [← HLN.out]; exact HI.out.2.2.2) HLN.out (by rw [← HLN.out]; exact HI.out.1) (isC_bd HI.out) (Nat.zero_add n) HV1.out hB (by omega) (by omega))
    rw [show ((([] : List Nat).length : Nat) : Int) = 0 from rfl] at hD
    have HD := Lib.hid hD; clear hD
    have HBV := Lib.hid (vars_below w1 (.func (.func 108) #[] #[.pointer (some ⟨w.heap.size, 0, none⟩), .pointer (some ⟨w1.heap.size, 0, none⟩), .pointer (some ⟨w1.heap.size + 1, 0, none⟩)]))
    have HBW := Lib.hid (HB0.out.trans (hb1.mono (by omega)))
    clear hcell hb1 hnew
    go_wp2_with (go_at_call 108; (refine HD.out.mono ?_; rintro e w3 ⟨rfl, hv3, hb3⟩))

    go_ret
    exact detF_ret (by rw [HX.out, HV.out]) (HBW.out.trans ((HBV.out.trans hb3).mono (by omega)))
  · have HC := Lib.hid (isB_no hI)
    have HV := Lib.hid (detV_no hI)
    clear hI h
    generalize detV m = d at *
    go_enter Tryz.func100, Tryz.ntmps100
    go_wp2_with fail
    refine (icm_w B _ m false HC.out _ HR0.out hf).mono ?_
    rintro e w1 ⟨rfl, hb1⟩
    have hs0 := HS0.out
    have HBW := Lib.hid (HB0.out.trans (hb1.mono (by omega)))
    clear hb1 hcell
    go_wp2_with fail
    go_ret
    exact detF_ret HV.out.symm HBW.out
end Go.Proofs.YtnlbmnielemgiaaGreat
