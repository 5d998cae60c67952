/-
  Orders that turn one matrix into another: the lists that both sides return, and matrices of rows with their headers named.
  'copy' into a row of a matrix of the call's own.
-/
import Derived.Test.YtcmnkhblnlmfpaaGreatDoorFC16
import Derived.Laws.CopyOwn
import Derived.Test.YtcmnkhblnlmfpaaGreatDoorFC08
namespace Go.Proofs.YtcmnkhblnlmfpaaGreatDoor
open Go.RowKit

/-! ### Matrices of the call's own with their headers named -/
def MatH (A : Nat) (w : World) (v : Value) (m : List (List Int)) (hs : List Value) : Prop :=
  w.ownsRow A 25 1 v m.length hs ∧ (∀ j (h : j < m.length), ∃ hv, hs[j]? = some hv ∧ RowI A w.heap.size w hv m[j]) ∧
    ∀ (i j : Nat) (x y : Value), i ≠ j → hs[i]? = some x → hs[j]? = some y → x.ownBlock = none ∨ x.ownBlock ≠ y.ownBlock
theorem MatH.matI {A : Nat} {w : World} {v : Value} {m : List (List Int)} {hs : List Value} (h : MatH A w v m hs) : MatI A w.heap.size w v m :=
  ⟨hs, h.1, fun g hg => (h.1.lt g hg).2, h.2.1, h.2.2⟩
theorem MatH.len {A : Nat} {w : World} {v : Value} {m : List (List Int)} {hs : List Value} (h : MatH A w v m hs) : hs.length = m.length := by have := h.1.1; omega
theorem MatI.matH {A : Nat} {w : World} {v : Value} {m : List (List Int)} (h : MatI A w.heap.size w v m) : ∃ hs, MatH A w v m hs := by
  obtain ⟨hs, h1, _, h3, h4⟩ := h
  exact ⟨hs, h1, h3, h4⟩
theorem MatH.nil (A : Nat) (w : World) : MatH A w (.slice none 0 0) [] [] := ⟨World.ownsRow_nil _ _ _ _, fun j hj => by simp at hj, fun i j x y _ h => by simp at h⟩
theorem MatH.empty (w : World) : MatH w.heap.size (w.alloc (.cells #[] 25)) (.slice (some ⟨w.heap.size, 0, none⟩) 0 0) [] [] :=
  ⟨World.ownsRow_lit w #[] 0 (Nat.le_refl _) (by unfold maxLen; omega) rfl, fun j hj => by simp at hj, fun i j x y _ h => by simp at h⟩
theorem MatH.step {A : Nat} {w w' : World} {v : Value} {m : List (List Int)} {hs : List Value} (h : MatH A w v m hs) (hb : Below w.heap.size w w') : MatH A w' v m hs :=
  ⟨ownsRow_same h.1 (fun g hg => (h.1.lt g hg).2) (SameIn.of_below hb (Nat.le_refl _)), fun j hj => by
    obtain ⟨hv, h1, h2⟩ := h.2.1 j hj
    exact ⟨hv, h1, h2.step hb⟩, h.2.2⟩

/-- 'out = append(out, row)', told where the new header block lies, whatever was written. -/
theorem append_rowH {ops : Array Oper} {rest : List Oper} {o : Oper} {a : Act} {Q : Exit → Act → World → Prop} {s x : Operand} {A : Nat} {v rv : Value} {m : List (List Int)} {hs : List Value} {l : List Int} {wr : World}
    (hM : MatH A wr v m hs) (hr : RowI A wr.heap.size wr rv l) (hA : A ≤ wr.heap.size) (hd : ∀ y ∈ hs, y.ownBlock = none ∨ y.ownBlock ≠ rv.ownBlock) (hgd : o.guard = none)
    (ho : o.op = .call { callee := .builtin .append, args := #[s, x], argTypes := #[24, 24] }) (hsv : a.eval s = v)
    (hx : a.eval x = .slice (some ⟨wr.heap.size, 0, none⟩) 1 1) (hlen : m.length ≤ 1048576)
    (h : ∀ v' w', MatH A w' v' (m ++ [l]) (hs ++ [rv]) → wr.grownBy w' v.ownBlock → (∀ g, v'.ownBlock = some g → v.ownBlock = some g ∨ wr.heap.size ≤ g) → wpList Tryz.prog ops Q rest (a.put o.dst v') w') :
    wpList Tryz.prog ops Q (o :: rest) a (wr.alloc (.cells #[rv] 25)) := by
  have hll := hM.len
  obtain ⟨h1, h3, h4⟩ := hM
  obtain ⟨i0, hi, hz0, hz1, hz2⟩ := info_parts Tryz.infoRow
  have h1a := h1.alloc (.cells #[rv] 25)
  have hone' : rv.oneCell' = true := by
    obtain ⟨ra, rcap, rfl⟩ := hr.slice
    rfl
  have hnew : ∀ j u, [rv][j]? = some u → (wr.alloc (.cells #[rv] 25)).cell? ((⟨wr.heap.size, 0, none⟩ : Addr).add j) = some u := by
    intro j u hu
    match j, hu with
    | 0, hu =>
      simp at hu
      subst hu
      rw [Addr.add_lit, cell_of_row _ wr.heap.size 0 _ _ _ (MapKept.heap_alloc wr _).1]
      rfl
    | j + 1, hu => simp at hu
  have hone : ∀ u ∈ [rv], u.oneCell' = true := by
    intro u hu
    simp at hu
    subst hu
    exact hone'
  obtain ⟨v', w', hrun, g1, g2, _⟩ := run_append_own (P := Tryz.prog) (wr.alloc (.cells #[rv] 25)) A 24 o.type 25 i0 (.slice none 0 0) 1 24 Tryz.underlying24 hi hz0 hz1 hz2 rfl (by omega) v m.length hs h1a ⟨wr.heap.size, 0, none⟩ 1 1 [rv] rfl hnew hone (by unfold maxLen; omega) (by omega) (by simp; omega)
  have hloc : ∀ g, v'.ownBlock = some g → v.ownBlock = some g ∨ wr.heap.size ≤ g := by
    rcases h1.2 with ⟨rfl, he⟩ | ⟨g, cap, cur, rfl, hAg, hg, hn, hc, hsz, ht⟩
    · have hr2 := run_append_nil (P := Tryz.prog) (wr.alloc (.cells #[rv] 25)) 24 o.type 25 i0 (.slice none 0 0) Tryz.underlying24 hi hz0 ⟨wr.heap.size, 0, none⟩ 1 1 [rv] (by rw [hz1]; rfl) hnew (by omega) (by omega) (by rw [hz2]; omega)
      rw [hrun] at hr2
      injection hr2 with e1 e2
      subst e1
      intro g' hg'
      right
      have : (wr.alloc (.cells #[rv] 25)).heap.size = g' := by simpa [Value.ownBlock] using hg'
      simp at this
      omega
    · have hga : (wr.alloc (.cells #[rv] 25)).heap[g]? = some (.cells cur 25 (0, 0)) := by
        rw [(MapKept.heap_alloc wr _).2 g (Array.getElem?_eq_some_iff.1 hg).1]; exact hg
      by_cases hroom : m.length + 1 ≤ cap
      · have hr2 := run_append_room (P := Tryz.prog) (wr.alloc (.cells #[rv] 25)) 24 o.type 25 i0 Tryz.underlying24 hi g m.length cap cur hga ⟨wr.heap.size, 0, none⟩ 1 1 [rv] (by rw [hz1]; rfl) hnew hone hroom (by rw [hz1]; simp; omega)
        rw [hrun] at hr2
        injection hr2 with e1 e2
        subst e1
        intro g' hg'
        exact Or.inl hg'
      · have hr2 := run_append_grow (P := Tryz.prog) (wr.alloc (.cells #[rv] 25)) 24 o.type 25 i0 (.slice none 0 0) Tryz.underlying24 hi hz0 ⟨g, 0, none⟩ m.length cap hs (by rw [hz1]; omega) (h1a.cells (g := g) rfl) ⟨wr.heap.size, 0, none⟩ 1 1 [rv] (by rw [hz1]; rfl) hnew (by omega) (by omega) (growslice_fits (by omega) (by rw [hz2]; omega))
        rw [hrun] at hr2
        injection hr2 with e1 e2
        subst e1
        intro g' hg'
        right
        have : (wr.alloc (.cells #[rv] 25)).heap.size = g' := by simpa [Value.ownBlock] using hg'
        simp at this
        omega
  have hgr : wr.grownBy w' v.ownBlock := ⟨g2.os, g2.tape, g2.output, by have := g2.size; simp at this; omega, fun k hk hn => by
    rw [g2.block k (by simp; omega) hn]
    exact (MapKept.heap_alloc wr _).2 k hk⟩
  have hrow : ∀ (hv : Value) (l' : List Int), RowI A wr.heap.size wr hv l' → RowI A w'.heap.size w' hv l' := fun hv l' hh => by
    refine (hh.grown hgr ?_).mono (Nat.le_refl _) hgr.size
    cases hhv : hv.ownBlock with
    | none => exact Or.inl rfl
    | some g =>
      right
      intro e
      rcases own_other hh.1 h1 with h5 | h5
      · rw [h5] at e; cases e
      · exact h5 (by rw [← e, hhv])
  refine Lib.wpList_append_run _ hgd s x 24 24 ho _ _ hsv hx v' w' hrun ?_
  refine h v' w' ⟨?_, fun j hj => ?_, ?_⟩ hgr hloc
  · rw [List.length_append]; exact g1
  · by_cases hjm : j < m.length
    · obtain ⟨hv, h5, h6⟩ := h3 j hjm
      exact ⟨hv, by rw [List.getElem?_append_left (by omega)]; exact h5, by rw [List.getElem_append_left hjm]; exact hrow hv _ h6⟩
    · have hje : j = m.length := by rw [List.length_append] at hj; simp at hj; omega
      subst hje
      refine ⟨rv, by rw [List.getElem?_append_right (by omega)]; simp [hll], ?_⟩
      rw [List.getElem_append_right (Nat.le_refl _)]
      simp only [Nat.sub_self, List.getElem_cons_zero]
      exact hrow rv l hr
  · intro i j x y hij hx hy
    have hnone : ∀ (p q : Option Nat), (p = none ∨ p ≠ q) → q = none ∨ q ≠ p := fun p q h => by
      rcases h with h | h
      · cases q with
        | none => exact Or.inl rfl
        | some c => right; rw [h]; simp
      · exact Or.inr (fun e => h e.symm)
    have hup : ∀ k z, (hs ++ [rv])[k]? = some z → (k < hs.length ∧ hs[k]? = some z) ∨ (k = hs.length ∧ z = rv) := fun k z hk => by
      rcases Nat.lt_or_ge k hs.length with h' | h'
      · left; rw [List.getElem?_append_left h'] at hk; exact ⟨h', hk⟩
      · right
        have hlt := (List.getElem?_eq_some_iff.1 hk).1
        rw [List.length_append] at hlt
        simp at hlt
        have e : k = hs.length := by omega
        rw [List.getElem?_append_right h', e] at hk
        simp at hk
        exact ⟨e, hk.symm⟩
    rcases hup i x hx with ⟨hi1, hi2⟩ | ⟨hi1, rfl⟩ <;> rcases hup j y hy with ⟨hj1, hj2⟩ | ⟨hj1, rfl⟩
    · exact h4 i j x y hij hi2 hj2
    · exact hd x (List.mem_of_getElem? hi2)
    · exact hnone _ _ (hd y (List.mem_of_getElem? hj2))
    · omega

/-! ### Which orders turn a into b -/
theorem fullF_get (f : Nat → Nat → Int) (n i : Nat) (h : i < n) : (fullF f n).getD i [] = rowF f n i := by simp [fullF, List.getD, h]
theorem fullF_entry (f : Nat → Nat → Int) (n i j : Nat) (hi : i < n) (hj : j < n) : entry (fullF f n) i j = f i j := by
  unfold entry
  rw [fullF_get f n i hi]
  simp [rowF, List.getD, hj]
theorem tab_pts {n : Nat} {q : List Nat} (hl : q.length = n) (hq : ∀ k, k < n → q.getD k 0 < n ∧ ∀ j, j < k → ¬ q.getD k 0 = q.getD j 0) : AllPt n (intL q) := fun k hk => by
  rw [intL_len] at hk
  rw [intL_get q k hk]
  have := (hq k (by omega)).1
  omega
theorem tab_ord {n : Nat} {q : List Nat} (hl : q.length = n) (hq : ∀ k, k < n → q.getD k 0 < n ∧ ∀ j, j < k → ¬ q.getD k 0 = q.getD j 0) : IsOrd n (intL q) := by
  refine ⟨by rw [intL_len]; exact hl, fun k hk => ⟨tab_pts hl hq k hk, ?_⟩⟩
  rw [intL_len] at hk
  rw [intL_get q k hk]
  intro hm
  obtain ⟨j, hj, he⟩ := List.getElem_of_mem hm
  have hjk : j < k := by rw [List.length_take] at hj; omega
  have h2 := (hq k (by omega)).2 j hjk
  have h3 : ((intL q).take k)[j] = ((q.getD j 0 : Nat) : Int) := by
    rw [List.getElem_take]
    simp [intL, List.getD, show j < q.length by omega]
  rw [h3] at he
  exact h2 (by omega)
theorem pick_isC {m : List (List Int)} (hI : IsC m) {q : List Nat} (hl : q.length = m.length) (hq : ∀ k, k < m.length → q.getD k 0 < m.length ∧ ∀ j, j < k → ¬ q.getD k 0 = q.getD j 0) :
    IsC (pick m (intL q)) ∧ (pick m (intL q)).length = m.length := by
  have hln : (intL q).length = m.length := by rw [intL_len]; exact hl
  have hp : pick m (intL q) = fullF (ptsF m (intL q)) m.length := by unfold pick; rw [hln]
  rw [hp]
  have hlen := fullF_len (ptsF m (intL q)) m.length
  refine ⟨⟨fun i hi => ?_, fun i j hi hj => ?_, by rw [hlen]; exact hI.2.2.1, by rw [hlen]; exact hI.2.2.2⟩, hlen⟩
  · rw [hlen] at hi ⊢
    rw [fullF_get _ _ _ hi, rowF_len]
  · rw [hlen] at hi hj
    have hpt : ∀ r c, r < m.length → c < m.length → ptsF m (intL q) r c = entry m (q.getD r 0) (q.getD c 0) := fun r c hr hc => by
      unfold ptsF
      rw [intL_get q r (by omega), intL_get q c (by omega)]
      rfl
    unfold okC
    rw [fullF_entry _ _ _ _ hi hj, fullF_entry _ _ _ _ hj hi, hpt i j hi hj, hpt j i hj hi]
    have h1 := (hq i hi).1
    have h2 := (hq j hj).1
    by_cases e : i = j
    · subst e
      left
      refine ⟨rfl, ?_⟩
      rcases hI.2.1 _ _ h1 h1 with h3 | h3
      · exact h3.2
      · exact absurd rfl h3.1
    · right
      have hne : q.getD i 0 ≠ q.getD j 0 := fun he => by
        rcases Nat.lt_or_ge i j with h' | h'
        · exact (hq j hj).2 i h' he.symm
        · exact (hq i hi).2 j (by omega) he
      rcases hI.2.1 _ _ h1 h2 with h3 | h3
      · exact absurd h3.1 hne
      · exact ⟨e, h3.2.1, h3.2.2⟩
def selP (a b : List (List Int)) (q : List Nat) : Bool := eqM (pick a (intL q)) b
def selT (a b : List (List Int)) (t : Nat) : List (List Nat) := ((ords a.length).take t).filter (selP a b)
theorem selT_yes {a b : List (List Int)} {t : Nat} (ht : t < (ords a.length).length) (h : selP a b ((ords a.length).getD t []) = true) : selT a b t ++ [(ords a.length).getD t []] = selT a b (t + 1) := by
  unfold selT
  rw [List.take_succ_eq_append_getElem ht, List.filter_append]
  have e : (ords a.length).getD t [] = (ords a.length)[t] := by simp [List.getD, ht]
  rw [e] at h ⊢
  rw [List.filter_cons_of_pos h]; rfl
theorem selT_no {a b : List (List Int)} {t : Nat} (ht : t < (ords a.length).length) (h : selP a b ((ords a.length).getD t []) = false) : selT a b t = selT a b (t + 1) := by
  unfold selT
  rw [List.take_succ_eq_append_getElem ht, List.filter_append]
  have e : (ords a.length).getD t [] = (ords a.length)[t] := by simp [List.getD, ht]
  rw [e] at h
  rw [List.filter_cons_of_neg (by rw [h]; simp)]; simp
theorem selT_len (a b : List (List Int)) (t : Nat) : (selT a b t).length ≤ t := by
  unfold selT
  exact Nat.le_trans (List.length_filter_le _ _) (by rw [List.length_take]; exact Nat.min_le_left _ _)
open Classical in
noncomputable def obV (a b : List (List Int)) : List (List Int) := if IsC a then tabL (selT a b (ords a.length).length) else []
theorem obV_yes {a b : List (List Int)} (h : IsC a) : obV a b = tabL (selT a b (ords a.length).length) := if_pos h
theorem obV_no {a b : List (List Int)} (h : ¬ IsC a) : obV a b = [] := if_neg h
theorem ords_len {n : Nat} (h : n ≤ 4) : (ords n).length ≤ 24 := (ords_ok n h n (by omega)).1
theorem obV_len (a b : List (List Int)) : (obV a b).length ≤ 24 := by
  by_cases h : IsC a
  · rw [obV_yes h, tabL_len]
    exact Nat.le_trans (selT_len a b _) (ords_len h.2.2.2)
  · rw [obV_no h]; simp
theorem obV_row {a b : List (List Int)} {k : Nat} (hk : k < (obV a b).length) : ((obV a b).getD k []).length = a.length ∧ a.length ≤ 4 := by
  by_cases h : IsC a
  · rw [obV_yes h] at hk ⊢
    rw [tabL_len] at hk
    rw [tabL_get _ _ hk, intL_len]
    have hm : (selT a b (ords a.length).length).getD k [] ∈ ords a.length := by
      have e : (selT a b (ords a.length).length).getD k [] = (selT a b (ords a.length).length)[k] := by simp [List.getD, hk]
      rw [e]
      exact List.mem_of_mem_take (List.mem_filter.1 (show (selT a b (ords a.length).length)[k] ∈ ((ords a.length).take (ords a.length).length).filter (selP a b) from List.getElem_mem hk)).1
    exact ⟨(ords_ok a.length h.2.2.2 a.length (by omega)).2 _ hm, h.2.2.2⟩
  · rw [obV_no h] at hk; simp at hk
theorem sum_le_of {l : List (List Int)} {c : Nat} (h : ∀ k, k < l.length → (l.getD k []).length ≤ c) : (l.map List.length).sum ≤ c * l.length := by
  induction l with
  | nil => simp
  | cons x l ih =>
    have h1 := h 0 (by simp)
    have h2 := ih fun k hk => by
      have := h (k + 1) (by simp; omega)
      simpa [List.getD] using this
    simp only [List.map_cons, List.sum_cons, List.length_cons, Nat.mul_succ]
    simp [List.getD] at h1
    omega
theorem obV_small (a b : List (List Int)) : szSum (obV a b) ≤ 1048576 := by
  have h1 := obV_len a b
  have h2 := sum_le_of (l := obV a b) (c := 4) fun k hk => by have := obV_row hk; omega
  unfold szSum
  omega
/-- Nothing turns a into b where b is not valid or has another number of points. -/
theorem obV_bad {a b : List (List Int)} (h : ¬ (IsC a ∧ IsC b ∧ a.length = b.length)) : obV a b = [] := by
  by_cases hI : IsC a
  · rw [obV_yes hI]
    have hn : selT a b (ords a.length).length = [] := by
      unfold selT
      rw [List.filter_eq_nil_iff]
      intro q hq hs
      have hq := List.mem_of_mem_take hq
      have h2 := (step_ok a.length hI.2.2.1 hI.2.2.2).2.2.2 q hq
      have h3 := pick_isC hI h2.1 h2.2
      unfold selP eqM at hs
      have e := of_decide_eq_true hs
      rw [e] at h3
      exact h ⟨hI, h3.1, h3.2.symm⟩
    rw [hn]; rfl
  · exact obV_no hI
/-- AreIsomorphic's answer. -/
noncomputable def isoL (a b : List (List Int)) : List Int := (obV a b).getD 0 []
noncomputable def isoB (a b : List (List Int)) : Bool := decide ((obV a b).length ≠ 0)
theorem isoL_len (a b : List (List Int)) : (isoL a b).length ≤ 4 := by
  unfold isoL
  by_cases h : 0 < (obV a b).length
  · have := obV_row h; omega
  · rw [List.getD_eq_getElem?_getD, List.getElem?_eq_none (by omega)]; simp
end Go.Proofs.YtcmnkhblnlmfpaaGreatDoor
namespace Go.Proofs.YtcmnkhblnlmfpaaGreatDoor
open Go.RowKit

def spl (l : List Int) (c : Nat) (l2 : List Int) : List Int := l.take c ++ l2 ++ l.drop (c + l2.length)
theorem spl_len (l : List Int) (c : Nat) (l2 : List Int) (h : c + l2.length ≤ l.length) : (spl l c l2).length = l.length := by simp [spl]; omega
theorem spl_take {α : Type} (cur : List α) (n c : Nat) (cs : List α) (hn : n ≤ cur.length) (hc : c + cs.length ≤ n) :
    (cur.take c ++ cs ++ cur.drop (c + cs.length)).take n = (cur.take n).take c ++ cs ++ (cur.take n).drop (c + cs.length) := by
  have h1 : (cur.take n).take c = cur.take c := by rw [List.take_take, Nat.min_eq_left (by omega)]
  rw [h1, List.take_append, List.take_of_length_le (by simp; omega)]
  congr 1
  rw [List.drop_take]
  congr 1
  simp
  omega

/-- What is known of the block of row j, for a copy into it. -/
def CopyTo (A B : Nat) (w : World) (v : Value) (m : List (List Int)) (j r : Nat) : Prop :=
  ∃ rcur : Array Value, w.heap[r]? = some (.cells rcur 3 (0, 0)) ∧ (m.getD j []).length ≤ rcur.size ∧
    ∀ (c : Nat) (l2 : List Int), c + l2.length ≤ (m.getD j []).length → MatI A B (w.setRow r (rcur.toList.take c ++ intsV l2 ++ rcur.toList.drop (c + l2.length)).toArray) v (m.set j (spl (m.getD j []) c l2))

theorem MatI.copyTo {A B : Nat} {w : World} {a : Option Addr} {n cap : Nat} {m : List (List Int)} (h : MatI A B w (.slice a n cap) m) {j : Nat} (hj : j < m.length) (h0 : 0 < (m.getD j []).length) :
    ∃ g r rcap, a = some ⟨g, 0, none⟩ ∧ w.cell? ⟨g, j, none⟩ = some (.slice (some ⟨r, 0, none⟩) (m.getD j []).length rcap) ∧ (m.getD j []).length ≤ rcap ∧ A ≤ r ∧ CopyTo A B w (.slice a n cap) m j r := by
  obtain ⟨hs, h1, h2, h3, h4⟩ := h
  have hgd : m.getD j [] = m[j] := by simp [List.getD, hj]
  unfold CopyTo
  rw [hgd] at h0 ⊢
  obtain ⟨hv, h5, h6⟩ := h3 j hj
  rcases h1.2 with ⟨hnil, hz⟩ | ⟨g, cap', cur, hval, hA, hg, _⟩
  · omega
  have ha : a = some ⟨g, 0, none⟩ := by injection hval
  have hn : n = m.length := by injection hval
  subst ha
  subst hn
  rcases h6.1.2 with ⟨_, hz⟩ | ⟨r, rcap, rcur, rfl, hrA, hrg, hrn, hrm, hrs, hrt⟩
  · omega
  simp only [Nat.mul_one] at hrs hrt
  refine ⟨g, r, rcap, rfl, by rw [h1.cellAt j (by omega)]; exact h5, hrn, hrA, rcur, hrg, by omega, fun c l2 hc => ?_⟩
  have hgr : w.grownBy (w.setRow r (rcur.toList.take c ++ intsV l2 ++ rcur.toList.drop (c + l2.length)).toArray) (some r) := ⟨rfl, rfl, rfl, by simp, fun k _ hk => setRow_other w r k _ (fun e => hk (by simp [e]))⟩
  have hrow : RowI A B (w.setRow r (rcur.toList.take c ++ intsV l2 ++ rcur.toList.drop (c + l2.length)).toArray) (.slice (some ⟨r, 0, none⟩) m[j].length rcap) (spl m[j] c l2) := by
    have hl := spl_len m[j] c l2 hc
    refine ⟨?_, h6.2⟩
    rw [hl]
    refine ⟨by rw [intsV_len, hl]; omega, Or.inr ⟨r, rcap, _, rfl, hrA, setRow_heap w r rcur _ 3 _ hrg, hrn, hrm, ?_, ?_⟩⟩
    · have hcl : c + l2.length ≤ rcur.size := by omega
      simp [intsV_len]; omega
    · rw [Nat.mul_one]
      have hcc : c + (intsV l2).length ≤ m[j].length := by rw [intsV_len]; exact hc
      have hst := spl_take rcur.toList m[j].length c (intsV l2) (by simp; omega) hcc
      rw [intsV_len] at hst
      rw [hst, hrt]
      simp [spl, intsV, List.map_take, List.map_drop]
  have hl := show (m.set j (spl m[j] c l2)).length = m.length by simp
  have h7 := mat_row (m' := m.set j (spl m[j] c l2)) h1 h3 h4 h5 hgr hl (by rw [hgd]; exact h6.1) (fun hj' => by
    rw [List.getElem_set_self]; exact hrow) (fun i hi hne => ⟨by rw [hl]; exact hi, by rw [List.getElem_set_ne (fun e => hne e.symm)]⟩)
  exact ⟨hs, h7.1, h2, h7.2, h4⟩

theorem copy_row {ops : Array Oper} {rest : List Oper} {o : Oper} {a : Act} {Q : Exit → Act → World → Prop} {d s : Operand} {A B B' : Nat} {w : World} {v xv : Value} {m : List (List Int)} {j r : Nat} {l2 : List Int}
    (hC : CopyTo A B w v m j r) (hA : A ≤ r) (hr : RowB B' w xv l2) (h0 : l2 ≠ []) (c dLen dCap : Nat) (hc : c + l2.length ≤ (m.getD j []).length) (hm : l2.length ≤ dLen) {m2 : List (List Int)} (h2 : m.set j (spl (m.getD j []) c l2) = m2) (hgd : o.guard = none)
    (ho : o.op = .call { callee := .builtin .copy, args := #[d, s], argTypes := #[25, 25] }) (hd : a.eval d = .slice (some ⟨r, c, none⟩) dLen dCap) (hs : a.eval s = xv)
    (h : ∀ w', MatI A B w' v m2 → (∀ W C, C ≤ A → Below C W w → Below C W w') → w'.heap.size = w.heap.size → wpList Tryz.prog ops Q rest (a.put o.dst (goInt l2.length)) w') :
    wpList Tryz.prog ops Q (o :: rest) a w := by
  subst h2
  obtain ⟨rcur, h1, h2, h3⟩ := hC
  rcases hr with ⟨h', _⟩ | ⟨b, off, cap, rfl, hb, hcell⟩
  · exact absurd h' h0
  have hcs : (intsV l2).length = l2.length := intsV_len l2
  refine wpList_copy_own hgd d s 25 25 ho 3 Tryz.underlying25 (by kernel_rfl) r c dLen dCap ⟨b, off, none⟩ l2.length cap hd hs rcur 3 h1 (intsV l2) (by rw [hcs]; exact (Nat.min_eq_left hm).symm) (fun k u hu => ?_) (by rw [hcs]; omega) (fun u hu => ?_) ?_
  · have hk : k < l2.length := by have := (List.getElem?_eq_some_iff.1 hu).1; rwa [hcs] at this
    rw [Addr.add_lit, hcell k hk, ← hu]
    simp [intsV, hk]
  · obtain ⟨n, _, rfl⟩ := List.mem_map.1 hu
    rfl
  · rw [hcs]
    have h4 := h3 c l2 hc
    rw [List.append_assoc] at h4
    exact h _ h4 (fun W C hC hb => below_setRow hb (by omega) _) (by simp)
end Go.Proofs.YtcmnkhblnlmfpaaGreatDoor
