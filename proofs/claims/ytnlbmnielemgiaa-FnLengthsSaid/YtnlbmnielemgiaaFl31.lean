/-
  DeterminantOf of the program: the closure over the rows, and what the call returns.
  DeterminantOf of the program: what the call returns.
  The program's sets by bits, principal minors and witness: what the calls return.
-/
import Derived.Deep.RegionHeld3
import Derived.OneCell
import Derived.Scope
import Derived.Test.YtnlbmnielemgiaaFl30
import Derived.Laws.EntriesVeiled
import Derived.Test.YtnlbmnielemgiaaFl28
import Derived.Test.YtnlbmnielemgiaaFl29
import Derived.Test.YtnlbmnielemgiaaFl25
namespace Go.Proofs.Ytnlbmnielemgiaa
open Go.RowKit

/-- The three variables that the closure shares: the matrix, the columns chosen so far (the rest of the four cells is of no matter), the closure itself. -/
structure Vars (B Bc Bh Be : Nat) (v : Value) (m : List (List Int)) (ch : List Nat) (w : World) : Prop where
  c : w.heap[Bc]? = some (.cells #[v] 24 (0, 0))
  e : w.heap[Be]? = some (.cells #[.func (.func 145) #[] #[.pointer (some ⟨Bc, 0, none⟩), .pointer (some ⟨Bh, 0, none⟩), .pointer (some ⟨Be, 0, none⟩)]] 116 (0, 0))
  h : ∃ cells : Array Value, w.heap[Bh]? = some (.cells cells 50 (0, 0)) ∧ cells.size = 4 ∧ ∀ i, i < ch.length → cells[i]? = some (.int .i64 (ch.getD i 0 : Nat))
  m : MatB B w v m
theorem Vars.below {B Bc Bh Be : Nat} {v : Value} {m : List (List Int)} {ch : List Nat} {w w' : World} {C : Nat} (h : Vars B Bc Bh Be v m ch w) (hb : Below C w w') (h1 : Bc < C) (h2 : Bh < C) (h3 : Be < C) (h4 : B ≤ C) : Vars B Bc Bh Be v m ch w' :=
  ⟨(hb.block _ h1).trans h.c, (hb.block _ h3).trans h.e, by obtain ⟨cells, hc, hx⟩ := h.h; exact ⟨cells, (hb.block _ h2).trans hc, hx⟩, h.m.below hb h4⟩
theorem Vars.cut {B Bc Bh Be : Nat} {v : Value} {m : List (List Int)} {ch : List Nat} {j : Nat} {w : World} (h : Vars B Bc Bh Be v m (ch ++ [j]) w) : Vars B Bc Bh Be v m ch w :=
  ⟨h.c, h.e, by
    obtain ⟨cells, hc, hs, hx⟩ := h.h
    refine ⟨cells, hc, hs, fun i hi => ?_⟩
    rw [hx i (by rw [List.length_append]; exact Nat.lt_of_lt_of_le hi (Nat.le_add_right _ _)), List.getD_eq_getElem?_getD, List.getElem?_append_left hi, ← List.getD_eq_getElem?_getD], h.m⟩
/-- The next column is chosen. -/
theorem Vars.put {B Bc Bh Be : Nat} {v : Value} {m : List (List Int)} {ch : List Nat} {w : World} (h : Vars B Bc Bh Be v m ch w) (j : Nat) (h1 : B ≤ Bc) (h2 : Bc < Bh) (h3 : Bh < Be) (hl : ch.length < 4) :
    Vars B Bc Bh Be v m (ch ++ [j]) (w.setCell ⟨Bh, ch.length, none⟩ (.int .i64 j)) := by
  obtain ⟨cells, hc, hs, hx⟩ := h.h
  refine ⟨(Below.heap_setCell _ _ _ _ (by show Bc ≠ Bh; omega)).trans h.c, (Below.heap_setCell _ _ _ _ (by show Be ≠ Bh; omega)).trans h.e, ⟨cells.setIfInBounds ch.length (.int .i64 j), ?_, by simp [hs], fun i hi => ?_⟩, h.m.below ((Below.refl B w).setCell (by show B ≤ Bh; omega) _) (Nat.le_refl _)⟩
  · have hlt := lt_of_block hc
    have h' : w.heap[Bh] = .cells cells 50 (0, 0) := by simpa [Array.getElem?_eq_getElem hlt] using hc
    show (w.heap.modify Bh _)[Bh]? = _
    rw [Array.getElem?_eq_getElem (by simpa using hlt), Array.getElem_modify_self, h']
    simp [Array.setIfInBounds]
  · rw [List.length_append] at hi
    by_cases he : i = ch.length
    · subst he
      rw [Array.getElem?_setIfInBounds]
      simp [hs, hl, List.getD]
    · have hi' : i < ch.length := by simp at hi; omega
      rw [Array.getElem?_setIfInBounds, if_neg (by omega), hx i hi', List.getD_eq_getElem?_getD (l := ch ++ [j]), List.getElem?_append_left hi', ← List.getD_eq_getElem?_getD]
theorem Vars.col {B Bc Bh Be : Nat} {v : Value} {m : List (List Int)} {ch : List Nat} {w : World} (h : Vars B Bc Bh Be v m ch w) {i : Nat} (hi : i < ch.length) : w.cell? ⟨Bh, i, none⟩ = some (.int .i64 (ch.getD i 0 : Nat)) := by
  obtain ⟨cells, hc, hs, hx⟩ := h.h
  simp only [World.cell?, hc]
  exact hx i hi
theorem Vars.old {B Bc Bh Be : Nat} {v : Value} {m : List (List Int)} {ch : List Nat} {w : World} (h : Vars B Bc Bh Be v m ch w) (i : Nat) (hi : i < 4) : ∃ u, w.cell? ⟨Bh, i, none⟩ = some u := by
  obtain ⟨cells, hc, hs, hx⟩ := h.h
  simp only [World.cell?, hc]
  exact ⟨cells[i], by simp [hs, hi]⟩
theorem Vars.free {B Bc Bh Be : Nat} {v : Value} {m : List (List Int)} {ch : List Nat} {w : World} (h : Vars B Bc Bh Be v m ch w) (i : Nat) : w.frozen? ⟨Bh, i, none⟩ = false := by
  obtain ⟨cells, hc, hs, hx⟩ := h.h
  simp [World.frozen?, hc]
set_option maxRecDepth 100000 in
theorem slice_chosen (Bh L : Nat) (h : L ≤ 4) (w : World) : (Instr.sliceAt 50 (.pointer (some ⟨Bh, 0, none⟩)) none (some (.int .i64 L)) none).run Try.prog w = .ok (.slice (some ⟨Bh, 0, none⟩) L 4) w := by
  have hA : Try.prog.underlying 50 = some (.array (Try.prog.arrayLen 50) (Try.prog.elem 50)) := by kernel_rfl
  have h4 : Try.prog.arrayLen 50 = 4 := by kernel_rfl
  have he : Try.prog.elem 50 = 3 := by kernel_rfl
  rw [run_sliceAt_array_h w 50 ⟨Bh, 0, none⟩ hA .i64 L (by omega) (by rw [h4]; omega), he, h4]
  have hs : (sizeOf 3).run Try.prog w = .ok 1 w := by rfl
  rw [hs]
  simp [slicedAt, Addr.add]
theorem sgnT_step (j : Nat) (ch : List Nat) (i : Nat) (h : i < ch.length) : sgnT j ch (i + 1) = if j < ch.getD i 0 then -sgnT j ch i else sgnT j ch i := by
  unfold sgnT
  rw [List.take_succ_eq_append_getElem h, sgnC_snoc]
  simp [List.getD, h]
theorem sgnT_one (j : Nat) (ch : List Nat) (i : Nat) : sgnT j ch i = 1 ∨ sgnT j ch i = -1 := sgnC_one _ _
set_option maxRecDepth 100000 in
theorem contains_at {ch : List Nat} {i j : Nat} (h : i < ch.length) (he : ch.getD i 0 = j) : ch.contains j = true := by
  rw [List.contains_iff_mem]
  subst he
  simp [List.getD, h]
theorem contains_not {ch : List Nat} {j : Nat} (h : ∀ i, i < ch.length → ch.getD i 0 ≠ j) : ch.contains j = false := by
  rw [Bool.eq_false_iff]
  intro hc
  rw [List.contains_iff_mem] at hc
  obtain ⟨i, hi, he⟩ := List.getElem_of_mem hc
  exact h i hi (by simp [List.getD, hi, he])

set_option maxHeartbeats 4000000 in
set_option maxRecDepth 100000 in
theorem clo_any (n k : Nat) : ∀ (B Bc Bh Be : Nat) (v : Value) (m : List (List Int)) (ch : List Nat) (w : World), n ≤ 4 → m.length = n → Rows0 m n n → Bd m → ch.length + k = n → Vars B Bc Bh Be v m ch w → B ≤ Bc → Bc < Bh → Bh < Be →
    Calls Try.prog 145 #[.int .i64 ch.length, .pointer (some ⟨Bc, 0, none⟩), .pointer (some ⟨Bh, 0, none⟩), .pointer (some ⟨Be, 0, none⟩)] w fun e w' => e = .returned (.int .i64 (expF m n k ch)) ∧ Vars B Bc Bh Be v m ch w' ∧ Below Bh w w' := by
  induction k with
  | zero =>
    intro B Bc Bh Be v m ch w h4 hn hr hbd hk hV hB1 hB2 hB3
    obtain ⟨a, cap, rfl⟩ := hV.m.slice
    have cC := cell_of_one hV.c
    have HV := Lib.hid hV; clear hV
    generalize hL : ch.length = L at *
    have HL := Lib.hid hL; clear hL
    obtain rfl : L = n := by omega
    rw [hn] at cC
    go_enter Try.func145, Try.ntmps145
    go_wp2_with fail
    refine wp_scope_straight ?_
    go_wp2_with fail
    simp only [Exit.noGoto]
    go_ret
    exact ⟨rfl, HV.out, Below.refl _ _⟩
  | succ k ih =>
    intro B Bc Bh Be v m ch w h4 hn hr hbd hk hV hB1 hB2 hB3
    obtain ⟨a, cap, rfl⟩ := hV.m.slice
    have cC := cell_of_one hV.c
    have hR := hV.m
    have HV := Lib.hid hV; clear hV
    have HBD := Lib.hid hbd
    have HRW := Lib.hid hr; clear hr
    generalize hL : ch.length = L at *
    have HL := Lib.hid hL; clear hL
    have HIH := Lib.hid ih; clear ih
    have HN := Lib.hid hn
    rw [hn] at cC
    clear hbd
    have hlt : L < n := by omega
    obtain ⟨b, off, rb, roff, rcap, rfl, hbB, hrB, hc1, hxx⟩ := (show MatB B w (.slice a n cap) m by rw [← hn]; exact hR).line HRW.out hlt
    have HXX := Lib.hid hxx; clear hxx hR
    have hne : ((L : Int) == (n : Int)) = false := by rw [beq_eq_false_iff_ne]; omega
    have hltI : (L : Int) < (n : Int) := by omega
    clear hn
    go_enter Try.func145, Try.ntmps145
    go_wp2_with fail
    refine wp_scope_straight ?_
    go_wp2_with fail
    refine wp_label ?_
    rename_i K hK
    refine hK _ _ ?_
    go_wp2_with fail
    go_loopw [6, 21] (fun s i wr => ∃ (j : Nat) (t : Int) (wq : World), wq = wr ∧ j ≤ n ∧ i = .int .i64 j ∧ s = .int .i64 t ∧ Hid (t = expS m n k ch j) ∧ Vars B Bc Bh Be (.slice (some ⟨b, off, none⟩) m.length cap) m ch wq ∧ Below Bh w wq) (fun _ i _ => n - (intOf i).toNat)
    case atStart => exact ⟨0, 0, _, rfl, Nat.zero_le _, rfl, rfl, Lib.hid rfl, HV.out, Below.refl _ _⟩
    case round =>
      obtain ⟨j, t, wq, rfl, hj, rfl, rfl, ht, hVq, hbq⟩ := hrel
      have HVQ := Lib.hid hVq; clear hVq
      have HBQ := Lib.hid hbq; clear hbq
      by_cases hjn : j < n
      · have hjn' : decide (j < n) = true := decide_eq_true hjn
        have hxj := (HBQ.out.cell (p := ⟨rb, roff + j, none⟩) (show rb < Bh by omega)).trans (HXX.out j hjn)
        generalize hxe : entry m L j = x at *
        have HXE := Lib.hid hxe; clear hxe
        have hsl := slice_chosen Bh L (by omega)
        go_wp2_with fail
        clear hsl
        go_loopw [9, 29] (fun g i wr => ∃ (c : Nat) (sg : Int), c ≤ L ∧ i = .int .i64 c ∧ g = .int .i64 sg ∧ Hid (sg = sgnT j ch c) ∧ wr = wq ∧ Hid (∀ p, p < c → ch.getD p 0 ≠ j)) (fun _ i _ => L - (intOf i).toNat)
        case atStart => exact ⟨0, 1, Nat.zero_le _, rfl, rfl, Lib.hid rfl, rfl, Lib.hid (fun p hp => absurd hp (Nat.not_lt_zero _))⟩
        case round =>
          obtain ⟨c, sg, hc, rfl, rfl, hsg, rfl, hno⟩ := hrel
          by_cases hcl : c < L
          · have hcl' : decide (c < L) = true := decide_eq_true hcl
            have hcol := HVQ.out.col (i := c) (by rw [HL.out]; exact hcl)
            have hst := sgnT_step j ch c (by rw [HL.out]; exact hcl)
            by_cases heq : ch.getD c 0 = j
            · have hct := contains_at (by rw [HL.out]; exact hcl) heq
              rw [heq] at hcol
              have HEQ := Lib.hid (show t = expS m n k ch (j + 1) by
                rw [expS_step, ← ht.out]
                unfold expT
                rw [if_pos hct]; omega)
              clear hct hst
              go_wp2_with fail
              exact ⟨⟨j + 1, t, _, rfl, by omega, by go_num, rfl, HEQ, HVQ.out, HBQ.out⟩, by simp [intOf]; omega⟩
            · have HNO := Lib.hid (show ∀ p, p < c + 1 → ch.getD p 0 ≠ j from fun p hp => by
                rcases Nat.lt_or_ge p c with h' | h'
                · exact hno.out p h'
                · obtain rfl : p = c := by omega
                  exact heq)
              have hne2 : (((ch.getD c 0 : Nat) : Int) == (j : Int)) = false := by rw [beq_eq_false_iff_ne]; omega
              have hs1 := sgnT_one j ch c
              rw [← hsg.out] at hs1 hst
              generalize ch.getD c 0 = y at *
              by_cases hy : j < y
              · rw [if_pos hy] at hst
                have hy' : decide ((j : Int) < (y : Int)) = true := decide_eq_true (by omega)
                have HST := Lib.hid hst; clear hst
                rcases hs1 with rfl | rfl
                · go_wp2_with fail
                  exact ⟨⟨c + 1, _, by omega, by go_num, rfl, Lib.hid (by rw [HST.out]; try rfl), trivial, HNO⟩, by simp [intOf]; omega⟩
                · go_wp2_with fail
                  exact ⟨⟨c + 1, _, by omega, by go_num, rfl, Lib.hid (by rw [HST.out]; try rfl), trivial, HNO⟩, by simp [intOf]; omega⟩
              · rw [if_neg hy] at hst
                have hy' : decide ((j : Int) < (y : Int)) = false := decide_eq_false (by omega)
                have HST := Lib.hid hst; clear hst
                go_wp2_with fail
                exact ⟨⟨c + 1, _, by omega, by go_num, rfl, Lib.hid (by rw [HST.out]; try rfl), trivial, HNO⟩, by simp [intOf]; omega⟩
          · obtain rfl : c = L := by omega
            have hcl' : decide (c < c) = false := by simp
            have HNC := Lib.hid (contains_not (ch := ch) (j := j) (by rw [HL.out]; exact hno.out))
            have hs1 := sgnT_one j ch c
            have HSG := Lib.hid (show sg = sgnC j ch by rw [hsg.out]; unfold sgnT; rw [List.take_of_length_le (by rw [HL.out]; exact Nat.le_refl _)])
            rw [← hsg.out] at hs1
            obtain ⟨u, hold⟩ := HVQ.out.old c (by omega)
            have hfree := HVQ.out.free c
            have hV2 := HVQ.out.put j hB1 hB2 hB3 (by rw [HL.out]; omega)
            rw [HL.out] at hV2
            have hb2 : Below Bh wr (wr.setCell ⟨Bh, c, none⟩ (.int .i64 j)) := (Below.refl Bh wr).setCell (show Bh ≤ Bh from Nat.le_refl _) _
            have cE0 := cell_of_one HVQ.out.e
            have cE := cell_of_one hV2.e
            have hEh : Be ≠ Bh := by omega
            have HV2 := Lib.hid hV2
            have HB2 := Lib.hid hb2
            have HBW := Lib.hid (HBQ.out.trans hb2)
            clear hV2 hb2
            have hst := expS_step m n k ch j
            have hbd := fun j => expF_bd h4 HBD.out k (ch ++ [j])
            have hsb := expS_bd (n := n) (k := k) (ch := ch) HBD.out hbd j
            have hdb := hbd j
            have hIH := HIH.out B Bc Bh Be (.slice (some ⟨b, off, none⟩) m.length cap) m (ch ++ [j]) (wr.setCell ⟨Bh, c, none⟩ (.int .i64 j)) h4 HN.out HRW.out HBD.out (by rw [List.length_append, HL.out]; simp; omega) HV2.out hB1 hB2 hB3
            rw [show (((ch ++ [j]).length : Nat) : Int) = (c : Int) + 1 by rw [List.length_append, HL.out]; simp] at hIH
            have HIH2 := Lib.hid hIH
            clear hIH hbd
            have hek := eB_small k (by omega)
            have hek0 := eB_nonneg k
            unfold expT at hst
            rw [if_neg (by rw [HNC.out]; decide), HL.out, HXE.out, ← HSG.out, ← ht.out] at hst
            rw [← ht.out] at hsb
            have hxb := HBD.out c j
            rw [HXE.out] at hxb
            generalize expF m n k (ch ++ [j]) = d at *
            have hpb : -3 ≤ sg * x ∧ sg * x ≤ 3 := by rcases hs1 with h1 | h1 <;> rw [h1] <;> omega
            generalize hpe : sg * x = p at *
            have hqb := mul_le3 hpb hdb hek0
            generalize hqe : p * d = q at *
            have hn3 : (j : Int) * (3 * eB k) ≤ 4 * (3 * eB k) := Int.mul_le_mul_of_nonneg_right (by omega) (by omega)
            generalize (j : Int) * (3 * eB k) = N3 at *
            generalize eB k = E at *
            obtain ⟨hp1, hp2⟩ := hpb
            obtain ⟨hq1, hq2⟩ := hqb
            obtain ⟨ht1, ht2⟩ := hsb
            have hq3 : -62208 ≤ q := by omega
            have hq4 : q ≤ 62208 := by omega
            have ht3 : -248832 ≤ t := by omega
            have ht4 : t ≤ 248832 := by omega
            have HST := Lib.hid hst
            clear hst hq1 hq2 ht1 ht2 hek hek0 hdb hn3 hs1 hxb
            go_wp2_with (go_at_call 145; refine HIH2.out.mono ?_; rintro e w3 ⟨rfl, hv3, hb3⟩)
            have HV3 := Lib.hid hv3.cut
            have HB3 := Lib.hid (HBW.out.trans hb3)
            clear hv3 hb3
            exact ⟨⟨j + 1, t + q, _, rfl, by omega, by go_num, rfl, Lib.hid HST.out.symm, HV3.out, HB3.out⟩, by simp [intOf]; omega⟩
      · obtain rfl : j = n := by omega
        have hjn' : decide (j < j) = false := by simp
        have HEN := Lib.hid (expS_end m j k ch)
        go_wp2_with fail
        simp only [Exit.noGoto]
        go_ret
        exact ⟨by show Ending.returned (.int .i64 t) = _; rw [ht.out, HEN.out], HVQ.out, HBQ.out⟩
end Go.Proofs.Ytnlbmnielemgiaa
namespace Go.Proofs.Ytnlbmnielemgiaa
open Go.RowKit

theorem vars_new (w : World) (u : Value) : ((w.alloc (.cells #[.int .i64 0, .int .i64 0, .int .i64 0, .int .i64 0] 50)).alloc (.cells #[u] 116)).heap[w.heap.size + 1]? = some (.cells #[u] 116 (0, 0)) := by
  have hs1 : (w.alloc (.cells #[.int .i64 0, .int .i64 0, .int .i64 0, .int .i64 0] 50)).heap.size = w.heap.size + 1 := by simp
  rw [← hs1]; exact (MapKept.heap_alloc _ _).1
theorem vars_below (w : World) (u : Value) : Below w.heap.size w ((w.alloc (.cells #[.int .i64 0, .int .i64 0, .int .i64 0, .int .i64 0] 50)).alloc (.cells #[u] 116)) :=
  ((Below.refl _ _).alloc (Nat.le_refl _) _).alloc (by simp) _
theorem vars_start {B Bc : Nat} {v : Value} {m : List (List Int)} {w : World} (hc : w.heap[Bc]? = some (.cells #[v] 24 (0, 0))) (hM : MatB B w v m) (hB : B ≤ w.heap.size) :
    Vars B Bc w.heap.size (w.heap.size + 1) v m []
      ((w.alloc (.cells #[.int .i64 0, .int .i64 0, .int .i64 0, .int .i64 0] 50)).alloc (.cells #[.func (.func 145) #[] #[.pointer (some ⟨Bc, 0, none⟩), .pointer (some ⟨w.heap.size, 0, none⟩), .pointer (some ⟨w.heap.size + 1, 0, none⟩)]] 116)) := by
  have hlt := lt_of_block hc
  have h1 : Below w.heap.size w (w.alloc (.cells #[.int .i64 0, .int .i64 0, .int .i64 0, .int .i64 0] 50)) := (Below.refl _ _).alloc (Nat.le_refl _) _
  have hn := vars_new w (.func (.func 145) #[] #[.pointer (some ⟨Bc, 0, none⟩), .pointer (some ⟨w.heap.size, 0, none⟩), .pointer (some ⟨w.heap.size + 1, 0, none⟩)])
  have hb := vars_below w (.func (.func 145) #[] #[.pointer (some ⟨Bc, 0, none⟩), .pointer (some ⟨w.heap.size, 0, none⟩), .pointer (some ⟨w.heap.size + 1, 0, none⟩)])
  refine ⟨(hb.block _ hlt).trans hc, hn, ⟨#[.int .i64 0, .int .i64 0, .int .i64 0, .int .i64 0], ?_, rfl, fun i hi => by simp at hi⟩, hM.below hb hB⟩
  rw [Below.heap_alloc _ _ _ (by simp)]; exact (MapKept.heap_alloc w _).1

set_option maxHeartbeats 2000000 in
set_option maxRecDepth 100000 in
theorem deti_any (B : Nat) (v : Value) (m : List (List Int)) (w : World) (h : MatB B w v m) (hB : B ≤ w.heap.size) (hf : RowsFit m) :
    Calls Try.prog 132 #[v] w fun e w' => e = .returned (.int .i64 (detV m)) ∧ Below w.heap.size w w' := by
  obtain ⟨a, cap, rfl⟩ := h.slice
  generalize hvv : m.length = n at *
  have HLN := Lib.hid hvv; clear hvv
  have hc0 : (w.alloc (.cells #[.slice a n cap] 24)).heap[w.heap.size]? = some (.cells #[.slice a n cap] 24 (0, 0)) := (MapKept.heap_alloc w _).1
  have hb0 : Below w.heap.size w (w.alloc (.cells #[.slice a n cap] 24)) := (Below.refl _ _).alloc (Nat.le_refl _) _
  have hs0 : (w.alloc (.cells #[.slice a n cap] 24)).heap.size = w.heap.size + 1 := by simp
  have HR0 := Lib.hid (h.below hb0 hB)
  have HC0 := Lib.hid hc0; have HB0 := Lib.hid hb0; have HS0 := Lib.hid hs0
  have hcell := cell_of_one hc0
  clear hc0 hb0 hs0
  by_cases hI : IsC m
  · have HC := Lib.hid (isB_yes hI)
    have HV := Lib.hid ((detV_yes hI).trans (by rw [HLN.out]))
    have HX := Lib.hid (exp_det m n (by rw [← HLN.out]; exact hI.2.2.2))
    have HI := Lib.hid hI
    clear hI h
    generalize detV m = d at *
    go_enter Try.func132, Try.ntmps132
    go_wp2_with fail
    refine (icm_w B _ m true HC.out _ HR0.out hf).mono ?_
    rintro e w1 ⟨rfl, hb1⟩
    have hs0 := HS0.out
    have hs1 := hb1.size
    have hc1 := (hb1.block w.heap.size (by omega)).trans HC0.out
    have hcell1 := cell_of_one hc1
    have HV1 := Lib.hid (vars_start hc1 (HR0.out.below hb1 (by omega)) (by omega))
    have HB1 := Lib.hid hb1
    have hnew := vars_new w1 .nilFunc
    have hcn := cell_of_one hnew
    have hfn := free_of_one hnew
    have HBN := Lib.hid (hb1.mono (Nat.le_refl _))
    have hcE := cell_of_one HV1.out.e
    have hD := (clo_any n n B w.heap.size w1.heap.size (w1.heap.size + 1) (.slice a n cap) m [] _ (by rw [← HLN.out]; exact HI.out.2.2.2) HLN.out (by rw [← HLN.out]; exact HI.out.1) (isC_bd HI.out) (Nat.zero_add n) HV1.out hB (by omega) (by omega))
    rw [show ((([] : List Nat).length : Nat) : Int) = 0 from rfl] at hD
    have HD := Lib.hid hD; clear hD
    have HBV := Lib.hid (vars_below w1 (.func (.func 145) #[] #[.pointer (some ⟨w.heap.size, 0, none⟩), .pointer (some ⟨w1.heap.size, 0, none⟩), .pointer (some ⟨w1.heap.size + 1, 0, none⟩)]))
    have HBW := Lib.hid (HB0.out.trans (hb1.mono (by omega)))
    clear hcell hb1 hnew
    go_wp2_with (go_at_call 145; (refine HD.out.mono ?_; rintro e w3 ⟨rfl, hv3, hb3⟩))

    go_ret
    exact detF_ret (by rw [HX.out, HV.out]) (HBW.out.trans ((HBV.out.trans hb3).mono (by omega)))
  · have HC := Lib.hid (isB_no hI)
    have HV := Lib.hid (detV_no hI)
    clear hI h
    generalize detV m = d at *
    go_enter Try.func132, Try.ntmps132
    go_wp2_with fail
    refine (icm_w B _ m false HC.out _ HR0.out hf).mono ?_
    rintro e w1 ⟨rfl, hb1⟩
    have hs0 := HS0.out
    have HBW := Lib.hid (HB0.out.trans (hb1.mono (by omega)))
    clear hb1 hcell
    go_wp2_with fail
    go_ret
    exact detF_ret HV.out.symm HBW.out
end Go.Proofs.Ytnlbmnielemgiaa
namespace Go.Proofs.Ytnlbmnielemgiaa
open Go.RowKit

/-! ### The points of a number -/
theorem setK_four : ∀ n : Nat, n ≤ 4 → ∀ t : Nat, t < 2 ^ n → setK t 4 = setK t n := by decide +kernel
theorem bit_bool (t c : Nat) (ht : t < 16) (hc : c < 4) : (bits BinOp.and IntKind.i64 ((t : Int) / 2 ^ c) 1 == 1) = t.testBit c := bit_test t ht c hc
set_option maxHeartbeats 2000000 in
set_option maxRecDepth 100000 in
theorem ptb_any (t : Nat) (w : World) (ht : t < 16) :
    Calls Try.prog 121 #[.int .i64 t] w (MakesS w (intL (setK t 4))) := by
  go_enter Try.func121, Try.ntmps121
  go_wp2_with fail
  go_loopw [3, 5] (fun o i wr => ∃ (c : Nat) (wq : World), wq = wr ∧ c ≤ 4 ∧ i = .int .i64 c ∧ RowI w.heap.size wq.heap.size wq o (intL (setK t c)) ∧ Below w.heap.size w wq) (fun _ i _ => 4 - (intOf i).toNat)
  case atStart => exact ⟨0, _, rfl, Nat.zero_le _, rfl, RowI.nil _ _ _, Below.refl _ _⟩
  case round =>
    obtain ⟨c, wq, rfl, hc, rfl, hR, hbi⟩ := hrel
    have HRI := Lib.hid hR
    have HBI := Lib.hid hbi
    have hsz := hbi.size
    clear hbi
    by_cases hcn : c < 4
    · clear hR
      have hcn' : decide (c < 4) = true := decide_eq_true hcn
      have hbt := bit_test t (by omega) c (by omega)
      by_cases hbit : t.testBit c = true
      · have HST := Lib.hid (setK_yes hbit)
        rw [hbit] at hbt
        clear hbit
        have hrl : (intL (setK t c)).length ≤ 4194304 := by rw [intL_len]; have := setK_len t c; omega
        have HRL := Lib.hid hrl; clear hrl
        go_wp2_with (at_builtin; go_must (refine append_int HRI.out hsz (c : Int) rfl rfl rfl rfl HRL.out ?_; intro v' w3 hr3 hb3 hz3))
        rw [intL_snoc, HST.out] at hr3
        have HR3 := Lib.hid hr3
        have HB3 := Lib.hid (hb3 w w.heap.size (Nat.le_refl _) HBI.out)
        clear hr3 hb3 hz3
        exact ⟨⟨c + 1, _, rfl, by omega, by go_num, HR3.out, HB3.out⟩, by simp [intOf]; omega⟩
      · have hbit' : t.testBit c = false := by simpa using hbit
        have HST := Lib.hid (setK_no hbit')
        rw [hbit'] at hbt
        clear hbit hbit'
        go_wp2_with fail
        exact ⟨⟨c + 1, _, rfl, by omega, by go_num, by rw [← HST.out]; exact HRI.out, HBI.out⟩, by simp [intOf]; omega⟩
    · obtain rfl : c = 4 := by omega
      have hcn' : decide (4 < 4) = false := by simp
      go_wp2_with fail
      go_ret
      exact ⟨_, rfl, ⟨HRI.out, Nat.le_refl _⟩, HBI.out⟩

/-! ### The matrix of a set is valid -/
theorem set_isC4 {m : List (List Int)} (hI : IsC m) {t : Nat} (ht : t < 2 ^ m.length - 1) : IsC (pick m (intL (setK (t + 1) m.length))) ∧ (pick m (intL (setK (t + 1) m.length))).length = (setK (t + 1) m.length).length := by
  have hset := set_is hI.2.2.2 ht
  have hn0 := (sets_ok m.length hI.2.2.2 t ht)
  have hl4 : (setK (t + 1) m.length).length ≤ 4 := Nat.le_trans (setK_len _ _) hI.2.2.2
  have hlen : (pick m (intL (setK (t + 1) m.length))).length = (setK (t + 1) m.length).length := by rw [pick_len, intL_len]
  refine ⟨⟨?_, ?_, by rw [hlen]; have := hn0.1; omega, by rw [hlen]; exact hl4⟩, hlen⟩
  · intro i hi
    have := pick_rows m (intL (setK (t + 1) m.length))
    rw [intL_len] at this
    rw [hlen] at hi ⊢
    exact this i hi
  · intro i j hi hj
    rw [hlen] at hi hj
    have hasc : ∀ k, k < (setK (t + 1) m.length).length → ∀ l, l < k → (setK (t + 1) m.length).getD l 0 < (setK (t + 1) m.length).getD k 0 := by
      intro k
      induction k with
      | zero => intro _ l hl; omega
      | succ k ih =>
        intro hk l hl
        have h1 := (hn0.2 (k + 1) hk).2 (by omega)
        simp only [Nat.add_sub_cancel] at h1
        rcases Nat.lt_or_ge l k with h2 | h2
        · exact Nat.lt_trans (ih (by omega) l h2) h1
        · obtain rfl : l = k := by omega
          exact h1
    have he : ∀ p r, p < (setK (t + 1) m.length).length → r < (setK (t + 1) m.length).length → entry (pick m (intL (setK (t + 1) m.length))) p r = entry m ((setK (t + 1) m.length).getD p 0) ((setK (t + 1) m.length).getD r 0) := fun p r hp hr => by
      unfold pick
      rw [fullM_entry _ _ _ _ (by rw [intL_len]; exact hp) (by rw [intL_len]; exact hr)]
      unfold ptsF
      rw [intL_get _ _ hp, intL_get _ _ hr]; rfl
    have h0 := hI.2.1 _ _ (hn0.2 i hi).1 (hn0.2 j hj).1
    unfold okC at h0 ⊢
    rw [he i j hi hj, he j i hj hi]
    rcases h0 with ⟨h1, h2⟩ | ⟨h1, h2, h3⟩
    · refine Or.inl ⟨?_, h2⟩
      rcases Nat.lt_trichotomy i j with h4 | h4 | h4
      · have := hasc j hj i h4; omega
      · exact h4
      · have := hasc i hi j h4; omega
    · exact Or.inr ⟨fun e => h1 (by rw [e]), h2, h3⟩
theorem pick_detV {m : List (List Int)} (hI : IsC m) {t : Nat} (ht : t < 2 ^ m.length - 1) : detV (pick m (intL (setK (t + 1) m.length))) = minP m t := by
  obtain ⟨h1, h2⟩ := set_isC4 hI ht
  rw [detV_yes h1, h2]; rfl

/-! ### Minors -/
set_option maxHeartbeats 4000000 in
set_option maxRecDepth 100000 in
theorem pmini_any (B : Nat) (v : Value) (m : List (List Int)) (w : World) (h : MatB B w v m) (hB : B ≤ w.heap.size) (hf : RowsFit m) :
    Calls Try.prog 120 #[v] w (MakesS w (minV m)) := by
  obtain ⟨a, cap, rfl⟩ := h.slice
  have hl := hf.1
  have HR := Lib.hid h; clear h
  have HF := Lib.hid hf; clear hf
  by_cases hI : IsC m
  · have hn4 := hI.2.2.2
    have hn1 := hI.2.2.1
    have HC := Lib.hid (isB_yes hI)
    have HI := Lib.hid hI
    have HV := Lib.hid (minV_yes hI)
    have HDV := Lib.hid (fun t ht => pick_detV hI (t := t) ht)
    have HPI := Lib.hid (fun t ht => (set_isC4 hI (t := t) ht).1)
    have HSE := Lib.hid (fun t ht => set_is hn4 (t := t) ht)
    have HMS := Lib.hid (minK_step m)
    have HML := Lib.hid (minK_len m)
    have hpw : wrap64 (2 ^ m.length) = ((2 ^ m.length : Nat) : Int) := by
      rcases (show m.length = 1 ∨ m.length = 2 ∨ m.length = 3 ∨ m.length = 4 by omega) with e | e | e | e <;> rw [e] <;> first | decide | decide +kernel
    have hN16 : 2 ^ m.length ≤ 16 ∧ 1 ≤ 2 ^ m.length := by
      rcases (show m.length = 1 ∨ m.length = 2 ∨ m.length = 3 ∨ m.length = 4 by omega) with e | e | e | e <;> rw [e] <;> decide
    have HK4 := Lib.hid (setK_four m.length hn4)
    clear hI
    generalize minV m = R at *
    generalize hNN : 2 ^ m.length = N at *
    have HNN := Lib.hid hNN; clear hNN
    generalize hn : m.length = n at *
    have HN := Lib.hid hn; clear hn
    unfold maxLen at hl
    obtain ⟨hN1, hN2⟩ := hN16
    go_enter Try.func120, Try.ntmps120
    go_wp2_with fail
    refine (icm_w B _ m true HC.out _ HR.out HF.out).mono ?_
    rintro e w2 ⟨rfl, hb2⟩
    have HB2 := Lib.hid hb2
    clear hb2
    go_wp2_with fail
    go_loopw [3, 4] (fun o i wr => ∃ (t : Nat) (wq : World), wq = wr ∧ 1 ≤ t ∧ t ≤ N ∧ i = .int .i64 t ∧ RowI w.heap.size wq.heap.size wq o (minK m (t - 1)) ∧ Below w.heap.size w wq) (fun _ i _ => N - (intOf i).toNat)
    case atStart => exact ⟨1, _, rfl, Nat.le_refl _, hN2, rfl, RowI.nil _ _ _, HB2.out⟩
    case round =>
      obtain ⟨t, wq, rfl, ht1, ht, rfl, hO, hb⟩ := hrel
      have HO := Lib.hid hO; have HB := Lib.hid hb
      have hsw := hb.size
      clear hO hb
      by_cases hlt : t < N
      · have hlt' : decide (t < N) = true := decide_eq_true hlt
        obtain ⟨u, rfl⟩ : ∃ u, t = u + 1 := ⟨t - 1, by omega⟩
        have hu : u < N - 1 := by omega
        obtain ⟨hset, hne0⟩ := HSE.out u hu
        have hDV := HDV.out u hu
        have HMS' := Lib.hid (HMS.out u)
        have hmlen := HML.out u
        have h4n := HK4.out (u + 1) hlt
        have hsl := isSet_len hset
        have HPT := Lib.hid (isSet_pt hset)
        have hptb := ptb_any (u + 1) wq (by omega)
        rw [h4n] at hptb
        have HPTB := Lib.hid hptb
        rw [show u + 1 - 1 = u from rfl] at HO
        clear hset hne0 hptb h4n
        generalize intL (setK (u + 1) n) = l at *
        have HDV' := Lib.hid hDV; clear hDV
        have HSL := Lib.hid hsl; clear hsl
        have hcu : ((u + 1 : Nat) : Int) = (u : Int) + 1 := by omega
        rw [hcu] at HPTB ⊢
        go_wp2_with fail
        refine HPTB.out.mono ?_
        rintro e w4 ⟨x, rfl, hx, hb4⟩
        have HX := Lib.hid hx.1
        have HB4 := Lib.hid (HB.out.trans (hb4.mono hsw))
        have HO4 := Lib.hid (HO.out.step hb4)
        have hs4 := hb4.size
        clear hx hb4
        go_wp2_with fail
        refine (pickp_any B _ (.slice a n cap) x m l w4 (HR.out.below HB4.out hB) HX.out.rowB (by omega) (Nat.le_refl _) HF.out (by rw [HN.out]; exact (by have := HI.out.1; rw [HN.out] at this; exact this)) (by rw [HN.out]; exact HPT.out) (by have := HSL.out; omega)).mono ?_
        rintro e w5 ⟨y, rfl, hy, hb5⟩
        have HY := Lib.hid hy
        have HB5 := Lib.hid (HB4.out.trans (hb5.mono (by omega)))
        have HO5 := Lib.hid (HO4.out.step hb5)
        have hs5 := hb5.size
        clear hy hb5
        go_wp2_with fail
        refine (deti_any _ y (pick m l) w5 HY.out.matB (Nat.le_refl _) (fit_of_small (small_of (fullF_small _ _ (by have := HSL.out; omega))))).mono ?_
        rintro e w6 ⟨rfl, hb6⟩
        rw [HDV'.out]
        have HB6 := Lib.hid (HB5.out.trans (hb6.mono (by omega)))
        have HO6 := Lib.hid (HO5.out.step hb6)
        have hs6 := hb6.size
        clear hb6
        have hrl6 : (minK m u).length ≤ 4194304 := by omega
        have HRL6 := Lib.hid hrl6; clear hrl6
        have hsw6 : w.heap.size ≤ w6.heap.size := by omega
        go_wp2_with (at_builtin; go_must (refine append_int HO6.out hsw6 (minP m u) rfl rfl rfl rfl HRL6.out ?_; intro v7 w7 hr7 hb7 hz7))
        rw [HMS'.out] at hr7
        have HR7 := Lib.hid hr7
        have HB7 := Lib.hid (hb7 w w.heap.size (Nat.le_refl _) HB6.out)
        clear hr7 hb7 hz7
        exact ⟨⟨u + 2, _, rfl, by omega, by omega, by go_num, HR7.out, HB7.out⟩, by simp [intOf]; omega⟩
      · obtain rfl : N = t := by omega
        have hlt' : decide (N < N) = false := by simp
        go_wp2_with fail
        go_ret
        exact ⟨_, rfl, by rw [HV.out]; exact ⟨HO.out, Nat.le_refl _⟩, HB.out⟩
  · have HC := Lib.hid (isB_no hI)
    have HV := Lib.hid (minV_no hI)
    clear hI
    generalize minV m = R at *
    generalize hn : m.length = n at *
    have HN := Lib.hid hn; clear hn
    unfold maxLen at hl
    go_enter Try.func120, Try.ntmps120
    go_wp2_with fail
    refine (icm_w B _ m false HC.out _ HR.out HF.out).mono ?_
    rintro e w2 ⟨rfl, hb2⟩
    have HB2 := Lib.hid hb2; clear hb2
    go_wp2_with fail
    go_ret
    exact makesS_nil HV.out (RowI.nil _ _ _) HB2.out
end Go.Proofs.Ytnlbmnielemgiaa
