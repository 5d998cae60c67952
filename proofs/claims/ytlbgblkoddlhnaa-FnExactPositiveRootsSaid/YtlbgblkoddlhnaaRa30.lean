/-
  Roots: the program's comparison of roots.
  Matrices of the call's own with their headers named.
  Roots: a list of rows that the library has sorted by the order of roots.
  The library's Clone at a list of ints.
-/
import Derived.Test.YtlbgblkoddlhnaaRa28
import Derived.Test.YtlbgblkoddlhnaaShelfF
import Derived.Maps.AppendAt
import Derived.Test.YtlbgblkoddlhnaaRa12
import Derived.Sort.Grow
import Derived.Test.YtlbgblkoddlhnaaRa27
import Derived.Lib.SliceRun
import Derived.Test.YtlbgblkoddlhnaaRa10
namespace Go.Proofs.Ytlbgblkoddlhnaa
open Go.RowKit

theorem lex_drop : ∀ {a b : List Int} {k : Nat}, SameTo a b k → k ≤ a.length → k ≤ b.length → lexC a b = lexC (a.drop k) (b.drop k)
  | _, _, 0, _, _, _ => rfl
  | [], _, k + 1, _, h, _ => absurd h (by simp)
  | _ :: _, [], k + 1, _, _, h => absurd h (by simp)
  | x :: a, y :: b, k + 1, hs, ha, hb => by
    have h0 : x = y := by simpa using hs 0 (by omega)
    simp only [lexC, if_pos h0, List.drop_succ_cons]
    exact lex_drop (fun j hj => by simpa using hs (j + 1) (by omega)) (by simpa using ha) (by simpa using hb)
theorem lex_diff {a b : List Int} {k : Nat} (h : SameTo a b k) (ha : k < a.length) (hb : k < b.length) (hn : a.getD k 0 ≠ b.getD k 0) : lexC a b = Lib.compareInt (a.getD k 0) (b.getD k 0) := by
  rw [lex_drop h (by omega) (by omega), List.drop_eq_getElem_cons ha, List.drop_eq_getElem_cons hb]
  have e1 : a.getD k 0 = a[k] := by simp [List.getD, ha]
  have e2 : b.getD k 0 = b[k] := by simp [List.getD, hb]
  rw [e1, e2] at hn ⊢
  simp only [lexC]
  rw [if_neg hn]
  unfold Lib.compareInt
  by_cases h1 : a[k] < b[k]
  · simp [h1]
  · have h2 : b[k] < a[k] := by omega
    simp [h1, h2]
theorem lex_long {a b : List Int} {k : Nat} (h : SameTo a b k) (ha : k < a.length) (hb : k = b.length) : lexC a b = 1 := by
  have hd : b.drop k = [] := List.drop_of_length_le (by omega)
  rw [lex_drop h (by omega) (by omega), List.drop_eq_getElem_cons ha, hd]; rfl
theorem lex_short {a b : List Int} {k : Nat} (h : SameTo a b k) (ha : k = a.length) (hb : k < b.length) : lexC a b = -1 := by
  have hd : a.drop k = [] := List.drop_of_length_le (by omega)
  rw [lex_drop h (by omega) (by omega), List.drop_eq_getElem_cons hb, hd]; rfl
theorem lex_same {a b : List Int} {k : Nat} (h : SameTo a b k) (ha : k = a.length) (hb : k = b.length) : lexC a b = 0 := by
  have hd : a.drop k = [] := List.drop_of_length_le (by omega)
  have hd2 : b.drop k = [] := List.drop_of_length_le (by omega)
  rw [lex_drop h (by omega) (by omega), hd, hd2]; rfl
theorem compareInt_zero {x y : Int} : Lib.compareInt x y = 0 ↔ x = y := by
  unfold Lib.compareInt
  by_cases h1 : x < y
  · simp [h1]; omega
  · by_cases h2 : y < x
    · simp [h1, h2]; omega
    · simp [h1, h2]; omega
set_option maxHeartbeats 2000000 in
set_option maxRecDepth 100000 in
theorem lexi_any (B B' : Nat) (v v' : Value) (l l' : List Int) (w : World) (h : RowB B w v l) (h' : RowB B' w v' l') (hl : l.length ≤ maxLen) (_hl' : l'.length ≤ maxLen) :
    Calls Try.prog 85 #[v, v'] w fun e w' => e = .returned (.int .i64 (lexC l l')) ∧ w' = w := by
  obtain ⟨a, cap, rfl⟩ := h.slice
  obtain ⟨a', cap', rfl⟩ := h'.slice
  have HL := Lib.hid h; have HL' := Lib.hid h'
  clear h h'
  unfold maxLen at hl _hl'
  have HDF := Lib.hid (fun k h ha hb hn => lex_diff (a := l) (b := l') (k := k) h ha hb hn)
  have HLO := Lib.hid (fun k h ha hb => lex_long (a := l) (b := l') (k := k) h ha hb)
  have HSH := Lib.hid (fun k h ha hb => lex_short (a := l) (b := l') (k := k) h ha hb)
  have HSA := Lib.hid (fun k h ha hb => lex_same (a := l) (b := l') (k := k) h ha hb)
  generalize lexC l l' = R at *
  generalize hln : l.length = n at *
  generalize hln' : l'.length = n' at *
  have HLN := Lib.hid hln; have HLN' := Lib.hid hln'
  clear hln hln'
  go_enter Try.func85, Try.ntmps85
  go_wp2_with fail
  go_loop [11] (fun i => ∃ (k : Nat), k ≤ n ∧ k ≤ n' ∧ i = .int .i64 k ∧ Hid (SameTo l l' k)) (fun i => n - (intOf i).toNat)
  case atStart => exact ⟨0, Nat.zero_le _, Nat.zero_le _, rfl, Lib.hid (sameTo_zero _ _)⟩
  case round =>
    obtain ⟨k, hk, hk', rfl, hs⟩ := hrel
    by_cases hlt : k < n
    · obtain ⟨b, off, rfl, hb, hc⟩ := HL.out.getD hlt
      have hd : decide (k < n) = true := decide_eq_true hlt
      by_cases hlt' : k < n'
      · obtain ⟨b', off', rfl, hb', hc'⟩ := HL'.out.getD hlt'
        have hd' : decide (n' ≤ k) = false := decide_eq_false (by omega)
        have HCM := Lib.hid (Try.cmp_Compare_int (l.getD k 0) (l'.getD k 0) w)
        have HCZ := Lib.hid (compareInt_zero (x := l.getD k 0) (y := l'.getD k 0))
        have HDK := Lib.hid (fun hn => HDF.out k hs.out hlt hlt' hn)
        have HSK := Lib.hid (fun he => sameTo_step hs.out (show l.getD k 0 = l'.getD k 0 from he))
        clear hs HDF HLO HSH HSA
        generalize Lib.compareInt (l.getD k 0) (l'.getD k 0) = c at *
        generalize l.getD k 0 = x at *
        generalize l'.getD k 0 = y at *
        by_cases hc0 : c = 0
        · have HS := Lib.hid (HSK.out (HCZ.out.1 hc0))
          have hcb : (c != 0) = false := by rw [bne_eq_false_iff_eq]; exact hc0
          clear HDK HSK HCZ hc0
          go_wp2_with fail
          refine HCM.out.mono ?_
          rintro e w' ⟨rfl, rfl⟩
          go_wp2_with fail
          exact ⟨⟨k + 1, by omega, by omega, by go_num, HS⟩, by simp [intOf]; omega⟩
        · have HV := Lib.hid (HDK.out (fun he => hc0 (HCZ.out.2 he)))
          have hcb : (c != 0) = true := by rw [bne_iff_ne]; exact hc0
          clear HDK HSK HCZ hc0
          go_wp2_with fail
          refine HCM.out.mono ?_
          rintro e w' ⟨rfl, rfl⟩
          go_wp2_with fail
          go_ret
          exact ⟨ret_int HV.out.symm, rfl⟩
      · have hd' : decide (n' ≤ k) = true := decide_eq_true (by omega)
        have HV := Lib.hid (HLO.out k hs.out hlt (by omega))
        clear hs HDF HLO HSH HSA
        generalize l.getD k 0 = x at *
        go_wp2_with fail
        go_ret
        exact ⟨ret_int HV.out.symm, rfl⟩
    · obtain rfl : k = n := by omega
      have hd : decide (k < k) = false := by simp
      by_cases hlt' : k < n'
      · have hd' : decide (k < n') = true := decide_eq_true hlt'
        have HV := Lib.hid (HSH.out k hs.out rfl hlt')
        clear hs HDF HLO HSH HSA
        go_wp2_with fail
        go_ret
        exact ⟨ret_int HV.out.symm, rfl⟩
      · have hd' : decide (k < n') = false := decide_eq_false hlt'
        have HV := Lib.hid (HSA.out k hs.out rfl (by omega))
        clear hs HDF HLO HSH HSA
        go_wp2_with fail
        go_ret
        exact ⟨ret_int HV.out.symm, rfl⟩
theorem cmpR_lt {a b : List Int} (h : Lib.compareInt (hgtL a) (hgtL b) ≠ 0) : cmpR a b = Lib.compareInt (hgtL a) (hgtL b) := by
  unfold cmpR Lib.compareInt at *
  by_cases h1 : hgtL a < hgtL b
  · simp [h1]
  · by_cases h2 : hgtL b < hgtL a
    · simp [h1, h2]
    · exact absurd (by simp [h1, h2]) h
theorem cmpR_eq {a b : List Int} (h : Lib.compareInt (hgtL a) (hgtL b) = 0) : cmpR a b = lexC b a := by
  have := compareInt_zero.1 h
  unfold cmpR
  rw [if_neg (by omega), if_neg (by omega)]
set_option maxHeartbeats 2000000 in
set_option maxRecDepth 100000 in
theorem cmpri_any (B B' : Nat) (v v' : Value) (l l' : List Int) (w : World) (h : RowB B w v l) (h' : RowB B' w v' l') (hl : l.length ≤ maxLen) (hl' : l'.length ≤ maxLen) :
    Calls Try.prog 66 #[v, v'] w fun e w' => e = .returned (.int .i64 (cmpR l l')) ∧ w' = w := by
  have HA := Lib.hid (hgti_any B v l w h hl)
  have HB := Lib.hid (hgti_any B' v' l' w h' hl')
  have HX := Lib.hid (lexi_any B' B v' v l' l w h' h hl' hl)
  have HC := Lib.hid (Try.cmp_Compare_int (hgtL l) (hgtL l') w)
  have HN := Lib.hid (fun h => cmpR_lt (a := l) (b := l') h)
  have HE := Lib.hid (fun h => cmpR_eq (a := l) (b := l') h)
  clear h h' hl hl'
  generalize cmpR l l' = R at *
  generalize lexC l' l = X at *
  generalize Lib.compareInt (hgtL l) (hgtL l') = c at *
  generalize hgtL l = x at *
  generalize hgtL l' = y at *
  by_cases hc0 : c = 0
  · have HV := Lib.hid (HE.out hc0)
    have hcb : (c != 0) = false := by rw [bne_eq_false_iff_eq]; exact hc0
    clear HN HE hc0
    go_enter Try.func66, Try.ntmps66
    go_wp2_with fail
    refine HA.out.mono ?_
    rintro e w' ⟨rfl, rfl⟩
    go_wp2_with fail
    refine HB.out.mono ?_
    rintro e w' ⟨rfl, rfl⟩
    go_wp2_with fail
    refine HC.out.mono ?_
    rintro e w' ⟨rfl, rfl⟩
    go_wp2_with fail
    refine HX.out.mono ?_
    rintro e w' ⟨rfl, rfl⟩
    go_wp2_with fail
    go_ret
    exact ⟨ret_int HV.out.symm, rfl⟩
  · have HV := Lib.hid (HN.out hc0)
    have hcb : (c != 0) = true := by rw [bne_iff_ne]; exact hc0
    clear HN HE hc0
    go_enter Try.func66, Try.ntmps66
    go_wp2_with fail
    refine HA.out.mono ?_
    rintro e w' ⟨rfl, rfl⟩
    go_wp2_with fail
    refine HB.out.mono ?_
    rintro e w' ⟨rfl, rfl⟩
    go_wp2_with fail
    refine HC.out.mono ?_
    rintro e w' ⟨rfl, rfl⟩
    go_wp2_with fail
    go_ret
    exact ⟨ret_int HV.out.symm, rfl⟩
end Go.Proofs.Ytlbgblkoddlhnaa
namespace Go.Proofs.Ytlbgblkoddlhnaa
open Go.RowKit

/-! ### Matrices of the call's own with their headers named -/
def MatH (A : Nat) (w : World) (v : Value) (m : List (List Int)) (hs : List Value) : Prop :=
  w.ownsRow A 23 1 v m.length hs ∧ (∀ j (h : j < m.length), ∃ hv, hs[j]? = some hv ∧ RowI A w.heap.size w hv m[j]) ∧
    ∀ (i j : Nat) (x y : Value), i ≠ j → hs[i]? = some x → hs[j]? = some y → x.ownBlock = none ∨ x.ownBlock ≠ y.ownBlock
theorem MatH.matI {A : Nat} {w : World} {v : Value} {m : List (List Int)} {hs : List Value} (h : MatH A w v m hs) : MatI A w.heap.size w v m :=
  ⟨hs, h.1, fun g hg => (h.1.lt g hg).2, h.2.1, h.2.2⟩
theorem MatH.len {A : Nat} {w : World} {v : Value} {m : List (List Int)} {hs : List Value} (h : MatH A w v m hs) : hs.length = m.length := by have := h.1.1; omega
theorem MatI.matH {A : Nat} {w : World} {v : Value} {m : List (List Int)} (h : MatI A w.heap.size w v m) : ∃ hs, MatH A w v m hs := by
  obtain ⟨hs, h1, _, h3, h4⟩ := h
  exact ⟨hs, h1, h3, h4⟩
theorem MatH.nil (A : Nat) (w : World) : MatH A w (.slice none 0 0) [] [] := ⟨World.ownsRow_nil _ _ _ _, fun j hj => by simp at hj, fun i j x y _ h => by simp at h⟩
theorem MatH.empty (w : World) : MatH w.heap.size (w.alloc (.cells #[] 23)) (.slice (some ⟨w.heap.size, 0, none⟩) 0 0) [] [] :=
  ⟨World.ownsRow_lit w #[] 0 (Nat.le_refl _) (by unfold maxLen; omega) rfl, fun j hj => by simp at hj, fun i j x y _ h => by simp at h⟩
theorem MatH.step {A : Nat} {w w' : World} {v : Value} {m : List (List Int)} {hs : List Value} (h : MatH A w v m hs) (hb : Below w.heap.size w w') : MatH A w' v m hs :=
  ⟨ownsRow_same h.1 (fun g hg => (h.1.lt g hg).2) (SameIn.of_below hb (Nat.le_refl _)), fun j hj => by
    obtain ⟨hv, h1, h2⟩ := h.2.1 j hj
    exact ⟨hv, h1, h2.step hb⟩, h.2.2⟩

/-- 'out = append(out, row)', told where the new header block lies, whatever was written. -/
theorem append_rowH {ops : Array Oper} {rest : List Oper} {o : Oper} {a : Act} {Q : Exit → Act → World → Prop} {s x : Operand} {A : Nat} {v rv : Value} {m : List (List Int)} {hs : List Value} {l : List Int} {wr : World}
    (hM : MatH A wr v m hs) (hr : RowI A wr.heap.size wr rv l) (hA : A ≤ wr.heap.size) (hd : ∀ y ∈ hs, y.ownBlock = none ∨ y.ownBlock ≠ rv.ownBlock) (hgd : o.guard = none)
    (ho : o.op = .call { callee := .builtin .append, args := #[s, x], argTypes := #[22, 22] }) (hsv : a.eval s = v)
    (hx : a.eval x = .slice (some ⟨wr.heap.size, 0, none⟩) 1 1) (hlen : m.length ≤ 1048576)
    (h : ∀ v' w', MatH A w' v' (m ++ [l]) (hs ++ [rv]) → wr.grownBy w' v.ownBlock → (∀ g, v'.ownBlock = some g → v.ownBlock = some g ∨ wr.heap.size ≤ g) → wpList Try.prog ops Q rest (a.put o.dst v') w') :
    wpList Try.prog ops Q (o :: rest) a (wr.alloc (.cells #[rv] 23)) := by
  have hll := hM.len
  obtain ⟨h1, h3, h4⟩ := hM
  obtain ⟨i0, hi, hz0, hz1, hz2⟩ := info_parts Try.infoRow
  have h1a := h1.alloc (.cells #[rv] 23)
  have hone' : rv.oneCell' = true := by
    obtain ⟨ra, rcap, rfl⟩ := hr.slice
    rfl
  have hnew : ∀ j u, [rv][j]? = some u → (wr.alloc (.cells #[rv] 23)).cell? ((⟨wr.heap.size, 0, none⟩ : Addr).add j) = some u := by
    intro j u hu
    match j, hu with
    | 0, hu =>
      simp at hu
      subst hu
      rw [Addr.add_lit, cell_of_row _ wr.heap.size 0 _ _ _ (MapKept.heap_alloc wr _).1]
      rfl
    | j + 1, hu => simp at hu
  have hone : ∀ u ∈ [rv], u.oneCell' = true := by
    intro u hu
    simp at hu
    subst hu
    exact hone'
  obtain ⟨v', w', hrun, g1, g2, _⟩ := run_append_own (P := Try.prog) (wr.alloc (.cells #[rv] 23)) A 22 o.type 23 i0 (.slice none 0 0) 1 24 Try.underlying22 hi hz0 hz1 hz2 rfl (by omega) v m.length hs h1a ⟨wr.heap.size, 0, none⟩ 1 1 [rv] rfl hnew hone (by unfold maxLen; omega) (by omega) (by simp; omega)
  have hloc : ∀ g, v'.ownBlock = some g → v.ownBlock = some g ∨ wr.heap.size ≤ g := by
    rcases h1.2 with ⟨rfl, he⟩ | ⟨g, cap, cur, rfl, hAg, hg, hn, hc, hsz, ht⟩
    · have hr2 := run_append_nil (P := Try.prog) (wr.alloc (.cells #[rv] 23)) 22 o.type 23 i0 (.slice none 0 0) Try.underlying22 hi hz0 ⟨wr.heap.size, 0, none⟩ 1 1 [rv] (by rw [hz1]; rfl) hnew (by omega) (by omega) (by rw [hz2]; omega)
      rw [hrun] at hr2
      injection hr2 with e1 e2
      subst e1
      intro g' hg'
      right
      have : (wr.alloc (.cells #[rv] 23)).heap.size = g' := by simpa [Value.ownBlock] using hg'
      simp at this
      omega
    · have hga : (wr.alloc (.cells #[rv] 23)).heap[g]? = some (.cells cur 23 (0, 0)) := by
        rw [(MapKept.heap_alloc wr _).2 g (Array.getElem?_eq_some_iff.1 hg).1]; exact hg
      by_cases hroom : m.length + 1 ≤ cap
      · have hr2 := run_append_room (P := Try.prog) (wr.alloc (.cells #[rv] 23)) 22 o.type 23 i0 Try.underlying22 hi g m.length cap cur hga ⟨wr.heap.size, 0, none⟩ 1 1 [rv] (by rw [hz1]; rfl) hnew hone hroom (by rw [hz1]; simp; omega)
        rw [hrun] at hr2
        injection hr2 with e1 e2
        subst e1
        intro g' hg'
        exact Or.inl hg'
      · have hr2 := run_append_grow (P := Try.prog) (wr.alloc (.cells #[rv] 23)) 22 o.type 23 i0 (.slice none 0 0) Try.underlying22 hi hz0 ⟨g, 0, none⟩ m.length cap hs (by rw [hz1]; omega) (h1a.cells (g := g) rfl) ⟨wr.heap.size, 0, none⟩ 1 1 [rv] (by rw [hz1]; rfl) hnew (by omega) (by omega) (growslice_fits (by omega) (by rw [hz2]; omega))
        rw [hrun] at hr2
        injection hr2 with e1 e2
        subst e1
        intro g' hg'
        right
        have : (wr.alloc (.cells #[rv] 23)).heap.size = g' := by simpa [Value.ownBlock] using hg'
        simp at this
        omega
  have hgr : wr.grownBy w' v.ownBlock := ⟨g2.os, g2.tape, g2.output, by have := g2.size; simp at this; omega, fun k hk hn => by
    rw [g2.block k (by simp; omega) hn]
    exact (MapKept.heap_alloc wr _).2 k hk⟩
  have hrow : ∀ (hv : Value) (l' : List Int), RowI A wr.heap.size wr hv l' → RowI A w'.heap.size w' hv l' := fun hv l' hh => by
    refine (hh.grown hgr ?_).mono (Nat.le_refl _) hgr.size
    cases hhv : hv.ownBlock with
    | none => exact Or.inl rfl
    | some g =>
      right
      intro e
      rcases own_other hh.1 h1 with h5 | h5
      · rw [h5] at e; cases e
      · exact h5 (by rw [← e, hhv])
  refine Lib.wpList_append_run _ hgd s x 22 22 ho _ _ hsv hx v' w' hrun ?_
  refine h v' w' ⟨?_, fun j hj => ?_, ?_⟩ hgr hloc
  · rw [List.length_append]; exact g1
  · by_cases hjm : j < m.length
    · obtain ⟨hv, h5, h6⟩ := h3 j hjm
      exact ⟨hv, by rw [List.getElem?_append_left (by omega)]; exact h5, by rw [List.getElem_append_left hjm]; exact hrow hv _ h6⟩
    · have hje : j = m.length := by rw [List.length_append] at hj; simp at hj; omega
      subst hje
      refine ⟨rv, by rw [List.getElem?_append_right (by omega)]; simp [hll], ?_⟩
      rw [List.getElem_append_right (Nat.le_refl _)]
      simp only [Nat.sub_self, List.getElem_cons_zero]
      exact hrow rv l hr
  · intro i j x y hij hx hy
    have hnone : ∀ (p q : Option Nat), (p = none ∨ p ≠ q) → q = none ∨ q ≠ p := fun p q h => by
      rcases h with h | h
      · cases q with
        | none => exact Or.inl rfl
        | some c => right; rw [h]; simp
      · exact Or.inr (fun e => h e.symm)
    have hup : ∀ k z, (hs ++ [rv])[k]? = some z → (k < hs.length ∧ hs[k]? = some z) ∨ (k = hs.length ∧ z = rv) := fun k z hk => by
      rcases Nat.lt_or_ge k hs.length with h' | h'
      · left; rw [List.getElem?_append_left h'] at hk; exact ⟨h', hk⟩
      · right
        have hlt := (List.getElem?_eq_some_iff.1 hk).1
        rw [List.length_append] at hlt
        simp at hlt
        have e : k = hs.length := by omega
        rw [List.getElem?_append_right h', e] at hk
        simp at hk
        exact ⟨e, hk.symm⟩
    rcases hup i x hx with ⟨hi1, hi2⟩ | ⟨hi1, rfl⟩ <;> rcases hup j y hy with ⟨hj1, hj2⟩ | ⟨hj1, rfl⟩
    · exact h4 i j x y hij hi2 hj2
    · exact hd x (List.mem_of_getElem? hi2)
    · exact hnone _ _ (hd y (List.mem_of_getElem? hj2))
    · omega

end Go.Proofs.Ytlbgblkoddlhnaa
namespace Go.Proofs.Ytlbgblkoddlhnaa
open Go.RowKit Go.Sort

/-! ### Over any elements -/
section
variable {α : Type} [Inhabited α] {enc : α → Value}
theorem heap_sortedG {w : World} {g n : Nat} {os : Array Obj} {cur : Array Value} {e : TypeId} {fr : Nat × Nat} (d : Array α) (hb : w.heap[g]? = some (.cells cur e fr)) :
    (sortWorld enc w g 0 n d os).heap[g]? = some (.cells (putCells enc 0 d cur) e fr) := by
  have hg : g < w.heap.size := (Array.getElem?_eq_some_iff.1 hb).1
  unfold sortWorld
  rw [heap_grow_old _ _ (by simpa using hg)]
  simp [putRow, mapBlock, Sort.ahead, Array.getElem?_modify, hb, onCells]
theorem grownBy_sortedG {w : World} {g n : Nat} {os : Array Obj} (d : Array α) : w.grownBy (sortWorld enc w g 0 n d os) (some g) := by
  unfold sortWorld
  refine ⟨rfl, rfl, rfl, by simp, fun k hk hne => ?_⟩
  rw [heap_grow_old _ _ (by simpa using hk)]
  have : g ≠ k := fun e => hne (by rw [e])
  simp [putRow, mapBlock, Sort.ahead, Array.getElem?_modify, this]
theorem take_putCellsG (cur : Array Value) (ts : List α) (h : ts.length ≤ cur.size) : (putCells enc 0 ts.toArray cur).toList.take ts.length = ts.map enc := by
  apply List.ext_getElem?
  intro j
  by_cases hj : j < ts.length
  · rw [List.getElem?_take_of_lt hj, Array.getElem?_toList]
    simp [putCells, hj, show j < cur.size by omega]
  · rw [List.getElem?_take_eq_none (by omega), List.getElem?_eq_none (by simp; omega)]
theorem ownsRow_sortedG {w : World} {base g cap n k : Nat} {e : TypeId} {os : Array Obj} {cur : Array Value} {ts : List α} (hl : ts.length = k) (hbase : base ≤ g) (hb : w.heap[g]? = some (.cells cur e (0, 0)))
    (h1 : k ≤ cap) (h2 : cap ≤ maxLen) (h3 : cur.size = cap * 1) :
    (sortWorld enc w g 0 n ts.toArray os).ownsRow base e 1 (.slice (some ⟨g, 0, none⟩) k cap) k (ts.map enc) :=
  ⟨by simp [hl], .inr ⟨g, cap, _, rfl, hbase, heap_sortedG _ hb, h1, h2, by simp [putCells, h3], by rw [Nat.mul_one, ← hl]; exact take_putCellsG cur ts (by omega)⟩⟩
end

/-! ### Rows by their number -/
abbrev Ix (k : Nat) : Type := Fin (k + 1)
def encH (k : Nat) (hs : List Value) (i : Ix k) : Value := hs.getD i.val (.slice none 0 0)
def cmpH (k : Nat) (ms : List (List Int)) (i j : Ix k) : Int := cmpR (ms.getD i.val []) (ms.getD j.val [])
theorem getD_at {β : Type} {l : List β} {i : Nat} (h : i < l.length) (d : β) : l.getD i d = l[i] := by simp [List.getD, h]
structure RowsI (k n : Nat) (ms : List (List Int)) : Prop where
  len : ms.length = k + 1
  row : ∀ r ∈ ms, r.length = n
  one : ms.Nodup
theorem RowsI.at {k n : Nat} {ms : List (List Int)} (h : RowsI k n ms) (i : Ix k) : (ms.getD i.val []).length = n := by
  have hi : i.val < ms.length := by rw [h.len]; exact i.isLt
  rw [getD_at hi]; exact h.row _ (List.getElem_mem hi)
theorem RowsI.inj {k n : Nat} {ms : List (List Int)} (h : RowsI k n ms) {i j : Ix k} (e : ms.getD i.val [] = ms.getD j.val []) : i = j := by
  have hi : i.val < ms.length := by rw [h.len]; exact i.isLt
  have hj : j.val < ms.length := by rw [h.len]; exact j.isLt
  rw [getD_at hi, getD_at hj] at e
  exact Fin.ext ((List.getElem_inj h.one).1 e)
theorem ltH {k n : Nat} {ms : List (List Int)} (h : RowsI k n ms) (i j : Ix k) : ltOf (cmpH k ms) i j = befB (ms.getD i.val []) (ms.getD j.val []) := by
  unfold ltOf cmpH
  have := cmpR_neg (a := ms.getD i.val []) (b := ms.getD j.val []) (by rw [h.at, h.at])
  cases hb : befB (ms.getD i.val []) (ms.getD j.val []) with
  | true => exact decide_eq_true (this.2 hb)
  | false => exact decide_eq_false fun hc => by rw [this.1 hc] at hb; exact absurd hb (by simp)
theorem totH {k n : Nat} {ms : List (List Int)} (h : RowsI k n ms) (i j : Ix k) (h1 : ltOf (cmpH k ms) i j = false) (h2 : ltOf (cmpH k ms) j i = false) : i = j := by
  rw [ltH h] at h1 h2
  rcases bef_total (a := ms.getD i.val []) (b := ms.getD j.val []) (by rw [h.at, h.at]) with e | e | e
  · exact h.inj e
  · rw [e] at h1; exact absurd h1 (by simp)
  · rw [e] at h2; exact absurd h2 (by simp)
theorem swoH {k n : Nat} {ms : List (List Int)} (h : RowsI k n ms) : SWO (ltOf (cmpH k ms)) where
  irrefl i := by rw [ltH h]; exact bef_irr _
  trans i j l h1 h2 := by rw [ltH h] at *; exact bef_trans h1 h2
  ntrans i j l h1 h2 := by
    cases hb : ltOf (cmpH k ms) i l with
    | false => rfl
    | true =>
      rw [ltH h] at hb
      by_cases e : i = j
      · subst e; rw [ltH h] at h2; rw [hb] at h2; exact absurd h2 (by simp)
      · have h3 : ltOf (cmpH k ms) j i = true := by
          cases h4 : ltOf (cmpH k ms) j i with
          | true => rfl
          | false => exact absurd (totH h i j h1 h4) e
        rw [ltH h] at h3 h2
        rw [bef_trans h3 hb] at h2; exact absurd h2 (by simp)
/-- The list as it stands behind the sort. -/
def srtH (k : Nat) (ms : List (List Int)) : List (Ix k) := (List.finRange (k + 1)).mergeSort fun x y => !(ltOf (cmpH k ms)) y x
theorem srt_perm (k : Nat) (ms : List (List Int)) : (srtH k ms).Perm (List.finRange (k + 1)) := List.mergeSort_perm _ _
theorem srt_len (k : Nat) (ms : List (List Int)) : (srtH k ms).length = k + 1 := by rw [(srt_perm k ms).length_eq]; simp
theorem srt_nodup (k : Nat) (ms : List (List Int)) : (srtH k ms).Nodup := (srt_perm k ms).symm.nodup (List.nodup_finRange _)
theorem srt_mem (k : Nat) (ms : List (List Int)) (i : Ix k) : i ∈ srtH k ms := (srt_perm k ms).mem_iff.2 (List.mem_finRange _)
def rowsH (k : Nat) (ms : List (List Int)) : List (List Int) := (srtH k ms).map fun i => ms.getD i.val []
theorem rowsH_len (k : Nat) (ms : List (List Int)) : (rowsH k ms).length = k + 1 := by unfold rowsH; rw [List.length_map, srt_len]
theorem rowsH_mem {k n : Nat} {ms : List (List Int)} (h : RowsI k n ms) (r : List Int) : r ∈ rowsH k ms ↔ r ∈ ms := by
  unfold rowsH
  rw [List.mem_map]
  constructor
  · rintro ⟨i, _, rfl⟩
    have hi : i.val < ms.length := by rw [h.len]; exact i.isLt
    rw [getD_at hi]; exact List.getElem_mem hi
  · intro hr
    obtain ⟨i, hi, e⟩ := List.getElem_of_mem hr
    exact ⟨⟨i, by rw [← h.len]; exact hi⟩, srt_mem _ _ _, by rw [getD_at hi]; exact e⟩
theorem rowsH_ordd {k n : Nat} {ms : List (List Int)} (h : RowsI k n ms) : Ordd (rowsH k ms) := by
  have hs : (srtH k ms).Pairwise fun x y => (!(ltOf (cmpH k ms)) y x) = true := List.pairwise_mergeSort (fun a b c h1 h2 => by
      have h1' : ltOf (cmpH k ms) b a = false := by simpa using h1
      have h2' : ltOf (cmpH k ms) c b = false := by simpa using h2
      have := (swoH h).ntrans c b a h2' h1'
      simp [this]) (fun a b => by
      cases h1 : ltOf (cmpH k ms) b a with
      | false => simp
      | true =>
        cases h2 : ltOf (cmpH k ms) a b with
        | false => simp
        | true => have := (swoH h).trans a b a h2 h1; rw [(swoH h).irrefl] at this; exact absurd this (by simp)) _
  unfold Ordd rowsH
  rw [List.pairwise_map]
  have hn := srt_nodup k ms
  unfold List.Nodup at hn
  refine (hs.and hn).imp ?_
  rintro a b ⟨h1, h2⟩
  have h1' : ltOf (cmpH k ms) b a = false := by simpa using h1
  cases h3 : ltOf (cmpH k ms) a b with
  | true => rw [ltH h] at h3; exact h3
  | false => exact absurd (totH h a b h3 h1') h2
end Go.Proofs.Ytlbgblkoddlhnaa
namespace Go.Proofs.Ytlbgblkoddlhnaa
open Go.RowKit

theorem RowI.nil' (A B : Nat) (w : World) : RowI A B w (.slice none 0 0) [] := ⟨World.ownsRow_nil _ _ _ _, fun g h => by simp [Value.ownBlock] at h⟩
set_option maxHeartbeats 1000000 in
set_option maxRecDepth 100000 in
theorem cloi_any (B : Nat) (v : Value) (l : List Int) (w : World) (h : RowB B w v l) (hB : B ≤ w.heap.size) (hl : l.length ≤ 1048576) :
    Calls Try.prog 64 #[v] w (MakesS w l) := by
  have qe : ∀ (w : World) (a : Option Addr) (n c n' c' : Nat), (binOp .eql 23 (.slice a n c) (.slice none n' c')).run Try.prog w = .ok (.bool a.isNone) w := fun w a n c n' c' => Lib.run_eql_slice_nil w _ _ a n c n' c' Try.underlying23
  obtain ⟨a, cap, rfl⟩ := h.slice
  cases a with
  | none =>
    have hl0 : l = [] := by
      rcases h with ⟨h0, _⟩ | ⟨b, off, c, h1, _⟩
      · exact h0
      · simp at h1
    subst hl0
    go_enter Try.func64, Try.ntmps64
    go_wp2_with fail
    go_ret
    exact ⟨_, rfl, ⟨RowI.nil' _ _ _, Nat.le_refl _⟩, Below.refl _ _⟩
  | some p =>
    have hb0 : Below w.heap.size w (w.alloc (.cells #[] 3)) := (Below.refl _ _).alloc (Nat.le_refl _) _
    have HL := Lib.hid (h.below hb0 hB)
    have hs0 : w.heap.size ≤ (w.alloc (.cells #[] 3)).heap.size := by simp
    have h1 : ([] : List Int).length + l.length ≤ 4194304 := by simp; omega
    have H1 := Lib.hid h1
    clear h hb0 h1
    generalize hln : l.length = n at *
    have HLN := Lib.hid hln; clear hln
    go_enter Try.func64, Try.ntmps64
    go_wp2_with (at_builtin; go_must (refine append_intsA (row_empty w) hs0 HL.out (by rw [HLN.out]; exact H1.out) rfl rfl rfl rfl ?_))
    intro v3 w3 hr3 hb3 hz3
    have hr3 : RowI w.heap.size w3.heap.size w3 v3 l := by simpa using hr3
    have HR3 := Lib.hid hr3
    have HB3 := Lib.hid (hb3 w w.heap.size (Nat.le_refl _) ((Below.refl _ _).alloc (Nat.le_refl _) _))
    clear hb3 hz3 hr3
    go_wp2_with fail
    go_ret
    exact ⟨_, rfl, ⟨HR3.out, Nat.le_refl _⟩, HB3.out⟩
end Go.Proofs.Ytlbgblkoddlhnaa
