/-
  Orders that turn one matrix into another: the lists that both sides return, and matrices of rows with their headers named.
  EqualCartans of the model: what each call returns.
  EqualCartans of the program: what the call returns.
-/
import Derived.Test.YtcmnkhblnlmfpaaGreatDoorFW26
import Derived.Test.YtcmnkhblnlmfpaaGreatDoorFW03
import Derived.Test.YtcmnkhblnlmfpaaGreatDoorFW04
namespace Go.Proofs.YtcmnkhblnlmfpaaGreatDoor
open Go.RowKit

/-! ### Matrices of the call's own with their headers named -/
def MatH (A : Nat) (w : World) (v : Value) (m : List (List Int)) (hs : List Value) : Prop :=
  w.ownsRow A 25 1 v m.length hs ∧ (∀ j (h : j < m.length), ∃ hv, hs[j]? = some hv ∧ RowI A w.heap.size w hv m[j]) ∧
    ∀ (i j : Nat) (x y : Value), i ≠ j → hs[i]? = some x → hs[j]? = some y → x.ownBlock = none ∨ x.ownBlock ≠ y.ownBlock
theorem MatH.matI {A : Nat} {w : World} {v : Value} {m : List (List Int)} {hs : List Value} (h : MatH A w v m hs) : MatI A w.heap.size w v m :=
  ⟨hs, h.1, fun g hg => (h.1.lt g hg).2, h.2.1, h.2.2⟩
theorem MatH.len {A : Nat} {w : World} {v : Value} {m : List (List Int)} {hs : List Value} (h : MatH A w v m hs) : hs.length = m.length := by have := h.1.1; omega
theorem MatI.matH {A : Nat} {w : World} {v : Value} {m : List (List Int)} (h : MatI A w.heap.size w v m) : ∃ hs, MatH A w v m hs := by
  obtain ⟨hs, h1, _, h3, h4⟩ := h
  exact ⟨hs, h1, h3, h4⟩
theorem MatH.nil (A : Nat) (w : World) : MatH A w (.slice none 0 0) [] [] := ⟨World.ownsRow_nil _ _ _ _, fun j hj => by simp at hj, fun i j x y _ h => by simp at h⟩
theorem MatH.empty (w : World) : MatH w.heap.size (w.alloc (.cells #[] 25)) (.slice (some ⟨w.heap.size, 0, none⟩) 0 0) [] [] :=
  ⟨World.ownsRow_lit w #[] 0 (Nat.le_refl _) (by unfold maxLen; omega) rfl, fun j hj => by simp at hj, fun i j x y _ h => by simp at h⟩
theorem MatH.step {A : Nat} {w w' : World} {v : Value} {m : List (List Int)} {hs : List Value} (h : MatH A w v m hs) (hb : Below w.heap.size w w') : MatH A w' v m hs :=
  ⟨ownsRow_same h.1 (fun g hg => (h.1.lt g hg).2) (SameIn.of_below hb (Nat.le_refl _)), fun j hj => by
    obtain ⟨hv, h1, h2⟩ := h.2.1 j hj
    exact ⟨hv, h1, h2.step hb⟩, h.2.2⟩

/-- 'out = append(out, row)', told where the new header block lies, whatever was written. -/
theorem append_rowH {ops : Array Oper} {rest : List Oper} {o : Oper} {a : Act} {Q : Exit → Act → World → Prop} {s x : Operand} {A : Nat} {v rv : Value} {m : List (List Int)} {hs : List Value} {l : List Int} {wr : World}
    (hM : MatH A wr v m hs) (hr : RowI A wr.heap.size wr rv l) (hA : A ≤ wr.heap.size) (hd : ∀ y ∈ hs, y.ownBlock = none ∨ y.ownBlock ≠ rv.ownBlock) (hgd : o.guard = none)
    (ho : o.op = .call { callee := .builtin .append, args := #[s, x], argTypes := #[24, 24] }) (hsv : a.eval s = v)
    (hx : a.eval x = .slice (some ⟨wr.heap.size, 0, none⟩) 1 1) (hlen : m.length ≤ 1048576)
    (h : ∀ v' w', MatH A w' v' (m ++ [l]) (hs ++ [rv]) → wr.grownBy w' v.ownBlock → (∀ g, v'.ownBlock = some g → v.ownBlock = some g ∨ wr.heap.size ≤ g) → wpList Tryz.prog ops Q rest (a.put o.dst v') w') :
    wpList Tryz.prog ops Q (o :: rest) a (wr.alloc (.cells #[rv] 25)) := by
  have hll := hM.len
  obtain ⟨h1, h3, h4⟩ := hM
  obtain ⟨i0, hi, hz0, hz1, hz2⟩ := info_parts Tryz.infoRow
  have h1a := h1.alloc (.cells #[rv] 25)
  have hone' : rv.oneCell' = true := by
    obtain ⟨ra, rcap, rfl⟩ := hr.slice
    rfl
  have hnew : ∀ j u, [rv][j]? = some u → (wr.alloc (.cells #[rv] 25)).cell? ((⟨wr.heap.size, 0, none⟩ : Addr).add j) = some u := by
    intro j u hu
    match j, hu with
    | 0, hu =>
      simp at hu
      subst hu
      rw [Addr.add_lit, cell_of_row _ wr.heap.size 0 _ _ _ (MapKept.heap_alloc wr _).1]
      rfl
    | j + 1, hu => simp at hu
  have hone : ∀ u ∈ [rv], u.oneCell' = true := by
    intro u hu
    simp at hu
    subst hu
    exact hone'
  obtain ⟨v', w', hrun, g1, g2, _⟩ := run_append_own (P := Tryz.prog) (wr.alloc (.cells #[rv] 25)) A 24 o.type 25 i0 (.slice none 0 0) 1 24 Tryz.underlying24 hi hz0 hz1 hz2 rfl (by omega) v m.length hs h1a ⟨wr.heap.size, 0, none⟩ 1 1 [rv] rfl hnew hone (by unfold maxLen; omega) (by omega) (by simp; omega)
  have hloc : ∀ g, v'.ownBlock = some g → v.ownBlock = some g ∨ wr.heap.size ≤ g := by
    rcases h1.2 with ⟨rfl, he⟩ | ⟨g, cap, cur, rfl, hAg, hg, hn, hc, hsz, ht⟩
    · have hr2 := run_append_nil (P := Tryz.prog) (wr.alloc (.cells #[rv] 25)) 24 o.type 25 i0 (.slice none 0 0) Tryz.underlying24 hi hz0 ⟨wr.heap.size, 0, none⟩ 1 1 [rv] (by rw [hz1]; rfl) hnew (by omega) (by omega) (by rw [hz2]; omega)
      rw [hrun] at hr2
      injection hr2 with e1 e2
      subst e1
      intro g' hg'
      right
      have : (wr.alloc (.cells #[rv] 25)).heap.size = g' := by simpa [Value.ownBlock] using hg'
      simp at this
      omega
    · have hga : (wr.alloc (.cells #[rv] 25)).heap[g]? = some (.cells cur 25 (0, 0)) := by
        rw [(MapKept.heap_alloc wr _).2 g (Array.getElem?_eq_some_iff.1 hg).1]; exact hg
      by_cases hroom : m.length + 1 ≤ cap
      · have hr2 := run_append_room (P := Tryz.prog) (wr.alloc (.cells #[rv] 25)) 24 o.type 25 i0 Tryz.underlying24 hi g m.length cap cur hga ⟨wr.heap.size, 0, none⟩ 1 1 [rv] (by rw [hz1]; rfl) hnew hone hroom (by rw [hz1]; simp; omega)
        rw [hrun] at hr2
        injection hr2 with e1 e2
        subst e1
        intro g' hg'
        exact Or.inl hg'
      · have hr2 := run_append_grow (P := Tryz.prog) (wr.alloc (.cells #[rv] 25)) 24 o.type 25 i0 (.slice none 0 0) Tryz.underlying24 hi hz0 ⟨g, 0, none⟩ m.length cap hs (by rw [hz1]; omega) (h1a.cells (g := g) rfl) ⟨wr.heap.size, 0, none⟩ 1 1 [rv] (by rw [hz1]; rfl) hnew (by omega) (by omega) (growslice_fits (by omega) (by rw [hz2]; omega))
        rw [hrun] at hr2
        injection hr2 with e1 e2
        subst e1
        intro g' hg'
        right
        have : (wr.alloc (.cells #[rv] 25)).heap.size = g' := by simpa [Value.ownBlock] using hg'
        simp at this
        omega
  have hgr : wr.grownBy w' v.ownBlock := ⟨g2.os, g2.tape, g2.output, by have := g2.size; simp at this; omega, fun k hk hn => by
    rw [g2.block k (by simp; omega) hn]
    exact (MapKept.heap_alloc wr _).2 k hk⟩
  have hrow : ∀ (hv : Value) (l' : List Int), RowI A wr.heap.size wr hv l' → RowI A w'.heap.size w' hv l' := fun hv l' hh => by
    refine (hh.grown hgr ?_).mono (Nat.le_refl _) hgr.size
    cases hhv : hv.ownBlock with
    | none => exact Or.inl rfl
    | some g =>
      right
      intro e
      rcases own_other hh.1 h1 with h5 | h5
      · rw [h5] at e; cases e
      · exact h5 (by rw [← e, hhv])
  refine Lib.wpList_append_run _ hgd s x 24 24 ho _ _ hsv hx v' w' hrun ?_
  refine h v' w' ⟨?_, fun j hj => ?_, ?_⟩ hgr hloc
  · rw [List.length_append]; exact g1
  · by_cases hjm : j < m.length
    · obtain ⟨hv, h5, h6⟩ := h3 j hjm
      exact ⟨hv, by rw [List.getElem?_append_left (by omega)]; exact h5, by rw [List.getElem_append_left hjm]; exact hrow hv _ h6⟩
    · have hje : j = m.length := by rw [List.length_append] at hj; simp at hj; omega
      subst hje
      refine ⟨rv, by rw [List.getElem?_append_right (by omega)]; simp [hll], ?_⟩
      rw [List.getElem_append_right (Nat.le_refl _)]
      simp only [Nat.sub_self, List.getElem_cons_zero]
      exact hrow rv l hr
  · intro i j x y hij hx hy
    have hnone : ∀ (p q : Option Nat), (p = none ∨ p ≠ q) → q = none ∨ q ≠ p := fun p q h => by
      rcases h with h | h
      · cases q with
        | none => exact Or.inl rfl
        | some c => right; rw [h]; simp
      · exact Or.inr (fun e => h e.symm)
    have hup : ∀ k z, (hs ++ [rv])[k]? = some z → (k < hs.length ∧ hs[k]? = some z) ∨ (k = hs.length ∧ z = rv) := fun k z hk => by
      rcases Nat.lt_or_ge k hs.length with h' | h'
      · left; rw [List.getElem?_append_left h'] at hk; exact ⟨h', hk⟩
      · right
        have hlt := (List.getElem?_eq_some_iff.1 hk).1
        rw [List.length_append] at hlt
        simp at hlt
        have e : k = hs.length := by omega
        rw [List.getElem?_append_right h', e] at hk
        simp at hk
        exact ⟨e, hk.symm⟩
    rcases hup i x hx with ⟨hi1, hi2⟩ | ⟨hi1, rfl⟩ <;> rcases hup j y hy with ⟨hj1, hj2⟩ | ⟨hj1, rfl⟩
    · exact h4 i j x y hij hi2 hj2
    · exact hd x (List.mem_of_getElem? hi2)
    · exact hnone _ _ (hd y (List.mem_of_getElem? hj2))
    · omega

/-! ### Which orders turn a into b -/
theorem fullF_get (f : Nat → Nat → Int) (n i : Nat) (h : i < n) : (fullF f n).getD i [] = rowF f n i := by simp [fullF, List.getD, h]
theorem fullF_entry (f : Nat → Nat → Int) (n i j : Nat) (hi : i < n) (hj : j < n) : entry (fullF f n) i j = f i j := by
  unfold entry
  rw [fullF_get f n i hi]
  simp [rowF, List.getD, hj]
theorem tab_pts {n : Nat} {q : List Nat} (hl : q.length = n) (hq : ∀ k, k < n → q.getD k 0 < n ∧ ∀ j, j < k → ¬ q.getD k 0 = q.getD j 0) : AllPt n (intL q) := fun k hk => by
  rw [intL_len] at hk
  rw [intL_get q k hk]
  have := (hq k (by omega)).1
  omega
theorem tab_ord {n : Nat} {q : List Nat} (hl : q.length = n) (hq : ∀ k, k < n → q.getD k 0 < n ∧ ∀ j, j < k → ¬ q.getD k 0 = q.getD j 0) : IsOrd n (intL q) := by
  refine ⟨by rw [intL_len]; exact hl, fun k hk => ⟨tab_pts hl hq k hk, ?_⟩⟩
  rw [intL_len] at hk
  rw [intL_get q k hk]
  intro hm
  obtain ⟨j, hj, he⟩ := List.getElem_of_mem hm
  have hjk : j < k := by rw [List.length_take] at hj; omega
  have h2 := (hq k (by omega)).2 j hjk
  have h3 : ((intL q).take k)[j] = ((q.getD j 0 : Nat) : Int) := by
    rw [List.getElem_take]
    simp [intL, List.getD, show j < q.length by omega]
  rw [h3] at he
  exact h2 (by omega)
theorem pick_isC {m : List (List Int)} (hI : IsC m) {q : List Nat} (hl : q.length = m.length) (hq : ∀ k, k < m.length → q.getD k 0 < m.length ∧ ∀ j, j < k → ¬ q.getD k 0 = q.getD j 0) :
    IsC (pick m (intL q)) ∧ (pick m (intL q)).length = m.length := by
  have hln : (intL q).length = m.length := by rw [intL_len]; exact hl
  have hp : pick m (intL q) = fullF (ptsF m (intL q)) m.length := by unfold pick; rw [hln]
  rw [hp]
  have hlen := fullF_len (ptsF m (intL q)) m.length
  refine ⟨⟨fun i hi => ?_, fun i j hi hj => ?_, by rw [hlen]; exact hI.2.2.1, by rw [hlen]; exact hI.2.2.2⟩, hlen⟩
  · rw [hlen] at hi ⊢
    rw [fullF_get _ _ _ hi, rowF_len]
  · rw [hlen] at hi hj
    have hpt : ∀ r c, r < m.length → c < m.length → ptsF m (intL q) r c = entry m (q.getD r 0) (q.getD c 0) := fun r c hr hc => by
      unfold ptsF
      rw [intL_get q r (by omega), intL_get q c (by omega)]
      rfl
    unfold okC
    rw [fullF_entry _ _ _ _ hi hj, fullF_entry _ _ _ _ hj hi, hpt i j hi hj, hpt j i hj hi]
    have h1 := (hq i hi).1
    have h2 := (hq j hj).1
    by_cases e : i = j
    · subst e
      left
      refine ⟨rfl, ?_⟩
      rcases hI.2.1 _ _ h1 h1 with h3 | h3
      · exact h3.2
      · exact absurd rfl h3.1
    · right
      have hne : q.getD i 0 ≠ q.getD j 0 := fun he => by
        rcases Nat.lt_or_ge i j with h' | h'
        · exact (hq j hj).2 i h' he.symm
        · exact (hq i hi).2 j (by omega) he
      rcases hI.2.1 _ _ h1 h2 with h3 | h3
      · exact absurd h3.1 hne
      · exact ⟨e, h3.2.1, h3.2.2⟩
def selP (a b : List (List Int)) (q : List Nat) : Bool := eqM (pick a (intL q)) b
def selT (a b : List (List Int)) (t : Nat) : List (List Nat) := ((ords a.length).take t).filter (selP a b)
theorem selT_yes {a b : List (List Int)} {t : Nat} (ht : t < (ords a.length).length) (h : selP a b ((ords a.length).getD t []) = true) : selT a b t ++ [(ords a.length).getD t []] = selT a b (t + 1) := by
  unfold selT
  rw [List.take_succ_eq_append_getElem ht, List.filter_append]
  have e : (ords a.length).getD t [] = (ords a.length)[t] := by simp [List.getD, ht]
  rw [e] at h ⊢
  rw [List.filter_cons_of_pos h]; rfl
theorem selT_no {a b : List (List Int)} {t : Nat} (ht : t < (ords a.length).length) (h : selP a b ((ords a.length).getD t []) = false) : selT a b t = selT a b (t + 1) := by
  unfold selT
  rw [List.take_succ_eq_append_getElem ht, List.filter_append]
  have e : (ords a.length).getD t [] = (ords a.length)[t] := by simp [List.getD, ht]
  rw [e] at h
  rw [List.filter_cons_of_neg (by rw [h]; simp)]; simp
theorem selT_len (a b : List (List Int)) (t : Nat) : (selT a b t).length ≤ t := by
  unfold selT
  exact Nat.le_trans (List.length_filter_le _ _) (by rw [List.length_take]; exact Nat.min_le_left _ _)
open Classical in
noncomputable def obV (a b : List (List Int)) : List (List Int) := if IsC a then tabL (selT a b (ords a.length).length) else []
theorem obV_yes {a b : List (List Int)} (h : IsC a) : obV a b = tabL (selT a b (ords a.length).length) := if_pos h
theorem obV_no {a b : List (List Int)} (h : ¬ IsC a) : obV a b = [] := if_neg h
theorem ords_len {n : Nat} (h : n ≤ 4) : (ords n).length ≤ 24 := (ords_ok n h n (by omega)).1
theorem obV_len (a b : List (List Int)) : (obV a b).length ≤ 24 := by
  by_cases h : IsC a
  · rw [obV_yes h, tabL_len]
    exact Nat.le_trans (selT_len a b _) (ords_len h.2.2.2)
  · rw [obV_no h]; simp
theorem obV_row {a b : List (List Int)} {k : Nat} (hk : k < (obV a b).length) : ((obV a b).getD k []).length = a.length ∧ a.length ≤ 4 := by
  by_cases h : IsC a
  · rw [obV_yes h] at hk ⊢
    rw [tabL_len] at hk
    rw [tabL_get _ _ hk, intL_len]
    have hm : (selT a b (ords a.length).length).getD k [] ∈ ords a.length := by
      have e : (selT a b (ords a.length).length).getD k [] = (selT a b (ords a.length).length)[k] := by simp [List.getD, hk]
      rw [e]
      exact List.mem_of_mem_take (List.mem_filter.1 (show (selT a b (ords a.length).length)[k] ∈ ((ords a.length).take (ords a.length).length).filter (selP a b) from List.getElem_mem hk)).1
    exact ⟨(ords_ok a.length h.2.2.2 a.length (by omega)).2 _ hm, h.2.2.2⟩
  · rw [obV_no h] at hk; simp at hk
theorem sum_le_of {l : List (List Int)} {c : Nat} (h : ∀ k, k < l.length → (l.getD k []).length ≤ c) : (l.map List.length).sum ≤ c * l.length := by
  induction l with
  | nil => simp
  | cons x l ih =>
    have h1 := h 0 (by simp)
    have h2 := ih fun k hk => by
      have := h (k + 1) (by simp; omega)
      simpa [List.getD] using this
    simp only [List.map_cons, List.sum_cons, List.length_cons, Nat.mul_succ]
    simp [List.getD] at h1
    omega
theorem obV_small (a b : List (List Int)) : szSum (obV a b) ≤ 1048576 := by
  have h1 := obV_len a b
  have h2 := sum_le_of (l := obV a b) (c := 4) fun k hk => by have := obV_row hk; omega
  unfold szSum
  omega
/-- Nothing turns a into b where b is not valid or has another number of points. -/
theorem obV_bad {a b : List (List Int)} (h : ¬ (IsC a ∧ IsC b ∧ a.length = b.length)) : obV a b = [] := by
  by_cases hI : IsC a
  · rw [obV_yes hI]
    have hn : selT a b (ords a.length).length = [] := by
      unfold selT
      rw [List.filter_eq_nil_iff]
      intro q hq hs
      have hq := List.mem_of_mem_take hq
      have h2 := (step_ok a.length hI.2.2.1 hI.2.2.2).2.2.2 q hq
      have h3 := pick_isC hI h2.1 h2.2
      unfold selP eqM at hs
      have e := of_decide_eq_true hs
      rw [e] at h3
      exact h ⟨hI, h3.1, h3.2.symm⟩
    rw [hn]; rfl
  · exact obV_no hI
/-- AreIsomorphic's answer. -/
noncomputable def isoL (a b : List (List Int)) : List Int := (obV a b).getD 0 []
noncomputable def isoB (a b : List (List Int)) : Bool := decide ((obV a b).length ≠ 0)
theorem isoL_len (a b : List (List Int)) : (isoL a b).length ≤ 4 := by
  unfold isoL
  by_cases h : 0 < (obV a b).length
  · have := obV_row h; omega
  · rw [List.getD_eq_getElem?_getD, List.getElem?_eq_none (by omega)]; simp
end Go.Proofs.YtcmnkhblnlmfpaaGreatDoor
namespace Go.Proofs.YtcmnkhblnlmfpaaGreatDoor
open Go.RowKit

theorem ne_at {m m' : List (List Int)} {k : Nat} (hk : k < m.length) (hk' : k < m'.length) (h : ¬ m[k] = m'[k]) : eqM m m' = false := eqM_no (fun e => h (by subst e; rfl))
theorem eq_all {m m' : List (List Int)} {n : Nat} (h1 : m.length = n) (h2 : m'.length = n) (h : PreM m m' n) : eqM m m' = true := by
  unfold PreM at h
  rw [List.take_of_length_le (by omega), List.take_of_length_le (by omega)] at h
  exact eqM_yes h
theorem rows_eq {a b : List Int} {r : Nat} (h1 : a.length = r) (h2 : b.length = r) (h : Pre a b r) : a = b := by
  unfold Pre at h
  rwa [List.take_of_length_le (by omega), List.take_of_length_le (by omega)] at h

set_option maxHeartbeats 2000000 in
set_option maxRecDepth 100000 in
theorem eqcs_any (B : Nat) (v v' : Value) (m m' : List (List Int)) (w : World) (h : MatB B w v m) (h' : MatB B w v' m') (hf : RowsFit m) (hf' : RowsFit m') :
    Calls Tryz.prog 54 #[v, v'] w fun e w' => e = .returned (.bool (eqM m m')) ∧ ∃ q, w' = w.drewN q := by
  obtain ⟨a, cap, rfl⟩ := h.slice
  obtain ⟨a', cap', rfl⟩ := h'.slice
  have hl := hf.1
  have hl' := hf'.1
  have HR := Lib.hid h; clear h
  have HR' := Lib.hid h'; clear h'
  have HF := Lib.hid hf; clear hf
  have HF' := Lib.hid hf'; clear hf'
  generalize hn : m.length = n at *
  generalize hn' : m'.length = n' at *
  unfold maxLen at hl hl'
  have HN := Lib.hid hn; clear hn
  have HN' := Lib.hid hn'; clear hn'
  by_cases hlen : n = n'
  · subst hlen
    go_enter Tryz.func54, Tryz.ntmps54
    go_wp2_with fail
    go_loopw [5] (fun i wr => ∃ (k q : Nat), k ≤ n ∧ i = .int .i64 k ∧ wr = w.drewN q ∧ PreM m m' k) (fun i _ => n - (intOf i).toNat)
    case atStart => exact ⟨0, 0, Nat.zero_le _, rfl, rfl, rfl⟩
    case round =>
      obtain ⟨k, q, hk, rfl, rfl, hp⟩ := hrel
      have HP := Lib.hid hp; clear hp
      by_cases hlt : k < n
      · obtain ⟨b, off, hkl, rfl, hb, ra, rcap, hc, hrow⟩ := HR.out.get hlt
        obtain ⟨b', off', hkl', rfl, hb', ra', rcap', hc', hrow'⟩ := HR'.out.get hlt
        have HROW := Lib.hid hrow; clear hrow
        have HROW' := Lib.hid hrow'; clear hrow'
        have hr1 := HF.out.2 k hkl
        have hr2 := HF'.out.2 k hkl'
        have hne : ¬ m[k] = m'[k] → eqM m m' = false := ne_at hkl hkl'
        have hstep : m[k] = m'[k] → PreM m m' (k + 1) := preM_step hkl hkl' HP.out
        have HNE := Lib.hid hne; clear hne
        have HST := Lib.hid hstep; clear hstep
        generalize m[k] = x at *
        generalize m'[k] = y at *
        generalize hxn : x.length = r at *
        generalize hyn : y.length = r' at *
        unfold maxLen at hr1 hr2
        have HXN := Lib.hid hxn; clear hxn
        have HYN := Lib.hid hyn; clear hyn
        by_cases hrr : r = r'
        · subst hrr
          go_wp2_with fail
          go_quiet (fail)
          go_wp2_with fail
          go_loopw [6] (fun i wr => ∃ (j q : Nat), j ≤ r ∧ i = .int .i64 j ∧ wr = w.drewN q ∧ Pre x y j) (fun i _ => r - (intOf i).toNat)
          case atStart => exact ⟨0, _, Nat.zero_le _, rfl, World.drewN_drewN _ _ _, rfl⟩
          case round =>
            obtain ⟨j, q2, hj, rfl, rfl, hpj⟩ := hrel
            have HPJ := Lib.hid hpj; clear hpj
            by_cases hjr : j < r
            · obtain ⟨b1, off1, hjl, rfl, hb1, hc1⟩ := HROW.out.get hjr
              obtain ⟨b2, off2, hjl', rfl, hb2, hc2⟩ := HROW'.out.get hjr
              by_cases he : x[j] = y[j]
              · have hst := pre_step hjl hjl' HPJ.out he
                have HST2 := Lib.hid hst; clear hst
                rw [← he] at hc2
                clear he
                generalize x[j] = z at *
                go_wp2_with fail
                go_quiet (fail)
                go_wp2_with fail
                exact ⟨⟨j + 1, q2 + nq, by omega, by go_num, rfl, HST2.out⟩, by simp [intOf]; omega⟩
              · have hbad := HNE.out (fun e => he (by subst e; rfl))
                have HBAD := Lib.hid hbad; clear hbad
                generalize hx : x[j] = z at *
                generalize hy : y[j] = z' at *
                have hxy : (z != z') = true := by rw [bne_iff_ne]; exact he
                have hxy' : (z == z') = false := by rw [beq_eq_false_iff_ne]; exact he
                clear hx hy he
                go_wp2_with fail
                go_quiet (fail)
                go_wp2_with fail
                go_ret
                exact ⟨ret_boolean HBAD.out.symm, _, World.drewN_drewN _ _ _⟩
            · obtain rfl : j = r := by omega
              have hgood := HST.out (rows_eq HXN.out HYN.out HPJ.out)
              have HG := Lib.hid hgood; clear hgood
              go_wp2_with fail
              exact ⟨⟨k + 1, q2, by omega, by go_num, rfl, HG.out⟩, by simp [intOf]; omega⟩
        · have hbad := HNE.out (fun e => hrr (by rw [← HXN.out, ← HYN.out, e]))
          have HBAD := Lib.hid hbad; clear hbad
          have hq : ((r : Int) != (r' : Int)) = true := by rw [bne_iff_ne]; omega
          have hq' : ((r : Int) == (r' : Int)) = false := by rw [beq_eq_false_iff_ne]; omega
          clear hrr
          go_wp2_with fail
          go_quiet (fail)
          go_wp2_with fail
          all_goals go_ret
          all_goals exact ⟨ret_boolean HBAD.out.symm, _, World.drewN_drewN _ _ _⟩
      · obtain rfl : k = n := by omega
        have hv := eq_all HN.out HN'.out HP.out
        have HV := Lib.hid hv; clear hv
        go_wp2_with fail
        go_ret
        exact ⟨ret_boolean HV.out.symm, _, rfl⟩
  · have hne : ¬ m = m' := fun e => hlen (by rw [← HN.out, ← HN'.out, e])
    have hv := eqM_no hne
    have HV := Lib.hid hv; clear hv hne
    have hq : ((n : Int) != (n' : Int)) = true := by rw [bne_iff_ne]; omega
    clear hlen
    go_enter Tryz.func54, Tryz.ntmps54
    go_wp2_with fail
    all_goals go_ret
    all_goals exact ⟨ret_boolean HV.out.symm, 0, rfl⟩
end Go.Proofs.YtcmnkhblnlmfpaaGreatDoor
namespace Go.Proofs.YtcmnkhblnlmfpaaGreatDoor
open Go.RowKit

set_option maxHeartbeats 1000000 in
theorem sleq_any (B : Nat) (v v' : Value) (l l' : List Int) (w : World) (h : RowB B w v l) (h' : RowB B w v' l') (hl : l.length ≤ maxLen) (hl' : l'.length ≤ maxLen) :
    Calls Tryz.prog 96 #[v, v'] w fun e w' => e = .returned (.bool (eqL l l')) ∧ ∃ q, w' = w.drewN q := by
  obtain ⟨a, cap, rfl⟩ := h.slice
  obtain ⟨a', cap', rfl⟩ := h'.slice
  have HR := Lib.hid h; clear h
  have HR' := Lib.hid h'; clear h'
  generalize hn : l.length = n at *
  generalize hn' : l'.length = n' at *
  unfold maxLen at hl hl'
  have HN := Lib.hid hn; clear hn
  have HN' := Lib.hid hn'; clear hn'
  by_cases hlen : n = n'
  · subst hlen
    go_enter Tryz.func96, Tryz.ntmps96
    go_wp2_with fail
    go_loopw [13] (fun i wr => ∃ (k q : Nat), k ≤ n ∧ i = .int .i64 k ∧ wr = w.drewN q ∧ Pre l l' k) (fun i _ => n - (intOf i).toNat)
    case atStart => exact ⟨0, 0, Nat.zero_le _, rfl, rfl, rfl⟩
    case round =>
      obtain ⟨k, q, hk, rfl, rfl, hp⟩ := hrel
      have HP := Lib.hid hp; clear hp
      by_cases hlt : k < n
      · obtain ⟨b, off, hkl, rfl, hb, hc⟩ := HR.out.get hlt
        obtain ⟨b', off', hkl', rfl, hb', hc'⟩ := HR'.out.get hlt
        by_cases he : l[k] = l'[k]
        · have hst := pre_step hkl hkl' HP.out he
          have HST := Lib.hid hst; clear hst
          rw [← he] at hc'
          clear he
          generalize l[k] = x at *
          go_wp2_with fail
          go_quiet (fail)
          go_wp2_with fail
          exact ⟨⟨k + 1, q + nq, by omega, by go_num, rfl, HST.out⟩, by simp [intOf]; omega⟩
        · have hne : ¬ l = l' := fun e => he (by subst e; rfl)
          have hv := eqL_no hne
          have HV := Lib.hid hv; clear hv hne
          generalize hx : l[k] = x at *
          generalize hy : l'[k] = y at *
          have hxy : (x != y) = true := by rw [bne_iff_ne]; exact he
          have hxy' : (x == y) = false := by rw [beq_eq_false_iff_ne]; exact he
          clear hx hy he
          go_wp2_with fail
          go_quiet (fail)
          go_wp2_with fail
          go_ret
          exact ⟨ret_boolean HV.out.symm, q + nq, World.drewN_drewN _ _ _⟩
      · obtain rfl : k = n := by omega
        have heq : l = l' := by
          have h1 := HP.out
          unfold Pre at h1
          rw [List.take_of_length_le (by rw [HN.out]; exact Nat.le_refl _), List.take_of_length_le (by rw [HN'.out]; exact Nat.le_refl _)] at h1
          exact h1
        have hv := eqL_yes heq
        have HV := Lib.hid hv; clear hv heq
        go_wp2_with fail
        go_ret
        exact ⟨ret_boolean HV.out.symm, _, rfl⟩
  · have hne : ¬ l = l' := fun e => hlen (by rw [← HN.out, ← HN'.out, e])
    have hv := eqL_no hne
    have HV := Lib.hid hv; clear hv hne
    have hq : ((n : Int) != (n' : Int)) = true := by rw [bne_iff_ne]; omega
    clear hlen
    go_enter Tryz.func96, Tryz.ntmps96
    go_wp2_with fail
    all_goals go_ret
    all_goals exact ⟨ret_boolean HV.out.symm, 0, rfl⟩

set_option maxHeartbeats 1000000 in
theorem eqf_any (B : Nat) (v v' : Value) (m m' : List (List Int)) (w : World) (h : MatB B w v m) (h' : MatB B w v' m') (hf : RowsFit m) (hf' : RowsFit m') :
    Calls Tryz.prog 95 #[v, v', .func (.func 96) #[] #[]] w fun e w' => e = .returned (.bool (eqM m m')) ∧ ∃ q, w' = w.drewN q := by
  obtain ⟨a, cap, rfl⟩ := h.slice
  obtain ⟨a', cap', rfl⟩ := h'.slice
  have hl := hf.1
  have hl' := hf'.1
  have HR := Lib.hid h; clear h
  have HR' := Lib.hid h'; clear h'
  have HF := Lib.hid hf; clear hf
  have HF' := Lib.hid hf'; clear hf'
  generalize hn : m.length = n at *
  generalize hn' : m'.length = n' at *
  unfold maxLen at hl hl'
  have HN := Lib.hid hn; clear hn
  have HN' := Lib.hid hn'; clear hn'
  by_cases hlen : n = n'
  · subst hlen
    go_enter Tryz.func95, Tryz.ntmps95
    go_wp2_with fail
    go_loopw [17] (fun i wr => ∃ (k q : Nat), k ≤ n ∧ i = .int .i64 k ∧ wr = w.drewN q ∧ PreM m m' k) (fun i _ => n - (intOf i).toNat)
    case atStart => exact ⟨0, 0, Nat.zero_le _, rfl, rfl, rfl⟩
    case round =>
      obtain ⟨k, q, hk, rfl, rfl, hp⟩ := hrel
      have HP := Lib.hid hp; clear hp
      by_cases hlt : k < n
      · obtain ⟨b, off, hkl, rfl, hb, ra, rcap, hc, hrow⟩ := HR.out.get hlt
        obtain ⟨b', off', hkl', rfl, hb', ra', rcap', hc', hrow'⟩ := HR'.out.get hlt
        have HROW := Lib.hid hrow; clear hrow
        have HROW' := Lib.hid hrow'; clear hrow'
        by_cases he : m[k] = m'[k]
        · have hst := preM_step hkl hkl' HP.out he
          have HST := Lib.hid hst; clear hst
          have hcon : ∀ q, Calls Tryz.prog 96 #[.slice ra m[k].length rcap, .slice ra' m'[k].length rcap'] (w.drewN q) fun e w' => e = .returned (.bool true) ∧ ∃ q', w' = (w.drewN q).drewN q' := fun q =>
            (sleq_any B _ _ _ _ (w.drewN q) (HROW.out.drewN q) (HROW'.out.drewN q) (HF.out.2 k hkl) (HF'.out.2 k hkl')).mono fun e w' ⟨h1, h2⟩ => ⟨by rw [h1, eqL_yes he], h2⟩
          have HCON := Lib.hid hcon; clear hcon he
          generalize m[k].length = rn at *
          generalize m'[k].length = rn' at *
          go_wp2_with fail
          refine (HCON.out q).mono ?_
          rintro e w' ⟨rfl, q3, rfl⟩
          go_wp2_with fail
          exact ⟨⟨k + 1, q + q3, by omega, by go_num, rfl, HST.out⟩, by simp [intOf]; omega⟩
        · have hne : ¬ m = m' := fun e => he (by subst e; rfl)
          have hv := eqM_no hne
          have HV := Lib.hid hv; clear hv hne
          have hcon : ∀ q, Calls Tryz.prog 96 #[.slice ra m[k].length rcap, .slice ra' m'[k].length rcap'] (w.drewN q) fun e w' => e = .returned (.bool false) ∧ ∃ q', w' = (w.drewN q).drewN q' := fun q =>
            (sleq_any B _ _ _ _ (w.drewN q) (HROW.out.drewN q) (HROW'.out.drewN q) (HF.out.2 k hkl) (HF'.out.2 k hkl')).mono fun e w' ⟨h1, h2⟩ => ⟨by rw [h1, eqL_no he], h2⟩
          have HCON := Lib.hid hcon; clear hcon he
          generalize m[k].length = rn at *
          generalize m'[k].length = rn' at *
          go_wp2_with fail
          refine (HCON.out q).mono ?_
          rintro e w' ⟨rfl, q3, rfl⟩
          go_wp2_with fail
          go_ret
          exact ⟨ret_boolean HV.out.symm, q + q3, rfl⟩
      · obtain rfl : k = n := by omega
        have hv := eq_all HN.out HN'.out HP.out
        have HV := Lib.hid hv; clear hv
        go_wp2_with fail
        go_ret
        exact ⟨ret_boolean HV.out.symm, _, rfl⟩
  · have hne : ¬ m = m' := fun e => hlen (by rw [← HN.out, ← HN'.out, e])
    have hv := eqM_no hne
    have HV := Lib.hid hv; clear hv hne
    have hq : ((n : Int) != (n' : Int)) = true := by rw [bne_iff_ne]; omega
    clear hlen
    go_enter Tryz.func95, Tryz.ntmps95
    go_wp2_with fail
    all_goals go_ret
    all_goals exact ⟨ret_boolean HV.out.symm, 0, rfl⟩

set_option maxHeartbeats 1000000 in
theorem eqci_any (B : Nat) (v v' : Value) (m m' : List (List Int)) (w : World) (h : MatB B w v m) (h' : MatB B w v' m') (hf : RowsFit m) (hf' : RowsFit m') :
    Calls Tryz.prog 53 #[v, v'] w fun e w' => e = .returned (.bool (eqM m m')) ∧ ∃ q, w' = w.drewN q := by
  have hc := eqf_any B v v' m m' w h h' hf hf'
  have HC := Lib.hid hc
  clear hc h h' hf hf'
  generalize eqM m m' = c at *
  go_enter Tryz.func53, Tryz.ntmps53
  go_wp2_with fail
  refine HC.out.mono ?_
  rintro e w' ⟨rfl, q, rfl⟩
  go_wp2_with fail
  go_ret
  exact ⟨rfl, q, rfl⟩
theorem eqcs_b (B B' : Nat) (v v' : Value) (m m' : List (List Int)) (w : World) (h : MatB B w v m) (h' : MatB B' w v' m') (hf : RowsFit m) (hf' : RowsFit m') :
    Calls Tryz.prog 54 #[v, v'] w fun e w' => e = .returned (.bool (eqM m m')) ∧ Below w.heap.size w w' :=
  (eqcs_any (max B B') v v' m m' w (h.mono (Nat.le_max_left _ _)) (h'.mono (Nat.le_max_right _ _)) hf hf').mono fun e w' ⟨h1, q, h2⟩ => ⟨h1, by rw [h2]; exact below_drewN q⟩
theorem eqci_b (B B' : Nat) (v v' : Value) (m m' : List (List Int)) (w : World) (h : MatB B w v m) (h' : MatB B' w v' m') (hf : RowsFit m) (hf' : RowsFit m') :
    Calls Tryz.prog 53 #[v, v'] w fun e w' => e = .returned (.bool (eqM m m')) ∧ Below w.heap.size w w' :=
  (eqci_any (max B B') v v' m m' w (h.mono (Nat.le_max_left _ _)) (h'.mono (Nat.le_max_right _ _)) hf hf').mono fun e w' ⟨h1, q, h2⟩ => ⟨h1, by rw [h2]; exact below_drewN q⟩
end Go.Proofs.YtcmnkhblnlmfpaaGreatDoor
